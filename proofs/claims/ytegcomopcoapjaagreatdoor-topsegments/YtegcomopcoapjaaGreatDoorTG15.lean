/- WS1, joined. -/
import Derived.Test.YtegcomopcoapjaaGreatDoorTG5
import Derived.Test.YtegcomopcoapjaaGreatDoorTG11
import Derived.Test.YtegcomopcoapjaaGreatDoorTG14
import Derived.Lib.AppendIntMem
/- wal: names of files; Start. -/
namespace Go.Proofs.YtegcomopcoapjaaGreatDoor
open Go.RowKit Go.Shelf

/-- The library's table. -/
def Tb (w : World) : Prop := Lib.TabIs Tryz.prog w "internal/strconv.uint64pow10" .u64 Lib.pow10Tab
theorem wit_grow {w w' : World} {k : Nat} {os : Array Obj} (h : w' = Go.Sort.grow (w.drewN k) os) : Below w.heap.size w w' := by
  subst h
  exact Go.Lib.below_grow _ w (Nat.le_refl _) k os
theorem itoa_nat (n : Int) (h1 : 1 ≤ n) (h2 : n ≤ 1099511627776) (w : World) (hT : n < 100 ∨ Tb w) :
    Calls Tryz.prog 37 #[.int .i64 n] w fun e w' => e = .returned (.string ⟨(Lib.decDigits n.toNat).toArray⟩) ∧ Below w.heap.size w w' := by
  by_cases h : n < 100
  · obtain ⟨m, rfl⟩ : ∃ m : Nat, n = (m : Int) := ⟨n.toNat, by omega⟩
    refine (itoa_small m (by omega) w).mono ?_
    rintro e w' ⟨rfl, rfl⟩
    exact ⟨rfl, Below.refl _ _⟩
  · refine (itoa_any n (by omega) (by omega) w (hT.resolve_left h)).mono ?_
    rintro e w' ⟨rfl, k, os, hw⟩
    refine ⟨?_, wit_grow hw⟩
    unfold Lib.itoa
    rw [if_neg (by omega)]
set_option maxRecDepth 100000 in
theorem name_any (p : List UInt8) (hp : p.length ≤ 1000000) (n : Int) (w : World) (hT : n < 100 ∨ Tb w) :
    Calls Tryz.prog 19 #[.string ⟨p.toArray⟩, .int .i64 n] w fun e w' => e = .returned (.string ⟨(nmF p n).toArray⟩) ∧ Below w.heap.size w w' := by
  have HT : Hid (n < 100 ∨ Tb w) := hT
  clear hT
  cases hq : isNo n with
  | false =>
    have HF : Hid (nmF p n = []) := nmF_no (fun h => by rw [isNo_iff.2 h] at hq; cases hq)
    go_enter Tryz.func19, Tryz.ntmps19
    go_wp2_with fail
    refine (isNumber_any n w).mono ?_
    rintro e w1 ⟨rfl, hw⟩
    subst w1
    rw [hq]
    go_wp2_with fail
    go_ret
    exact ⟨by rw [HF.out]; rfl, Below.refl _ _⟩
  | true =>
    obtain ⟨h1, h2⟩ := isNo_iff.1 hq
    have HF : Hid (nmF p n = p ++ Lib.decDigits n.toNat) := nmF_yes h1 h2
    have hl := dec_len (n := n.toNat) (by omega)
    obtain ⟨D, HD⟩ := hid_ex (Lib.decDigits n.toNat)
    have HC : Hid (Calls Tryz.prog 37 #[.int .i64 n] w fun e w' => e = .returned (.string ⟨D.toArray⟩) ∧ Below w.heap.size w w') := by rw [HD.out]; exact itoa_nat n h1 h2 w HT.out
    rw [← HD.out] at HF hl
    clear HD
    have HQ : Hid (isNo n = true) := hq
    clear hq
    go_enter Tryz.func19, Tryz.ntmps19
    go_wp2_with fail
    refine (isNumber_any n w).mono ?_
    rintro e w1 ⟨rfl, hw⟩
    subst w1
    rw [HQ.out]
    go_wp2_with fail
    refine HC.out.mono ?_
    rintro e w2 ⟨rfl, hb⟩
    go_wp2_with fail
    go_ret
    exact ⟨by rw [HF.out]; rfl, hb⟩
end Go.Proofs.YtegcomopcoapjaaGreatDoor
