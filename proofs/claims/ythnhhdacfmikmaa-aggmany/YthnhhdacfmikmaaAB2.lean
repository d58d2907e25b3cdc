/- The contracts of agg.Write and agg.Read, for bytes. -/
import Derived.Test.YthnhhdacfmikmaaAB1
import Derived.Test.YthnhhdacfmikmaaRT
import Derived.Test.YthnhhdacfmikmaaSL0
namespace Go.Proofs.Ythnhhdacfmikmaa
open Go.RowKit

def agV (a : Ag) : Value := .agg #[.int .u64 a.c, .bool a.o, .int .i64 (hi a.s), .int .u64 (lo a.s), .int .i64 a.mn, .int .i64 a.mx]
def aZ : Ag := ⟨0, false, 0, 0, 0⟩
theorem agVZ : agV aZ = .agg #[.int .u64 0, .bool false, .int .i64 0, .int .u64 0, .int .i64 0, .int .i64 0] := rfl
theorem aZ_ok : AgOk aZ := ⟨by decide, by decide, by decide, by decide, by decide, by decide, by decide, by decide⟩
set_option maxRecDepth 100000 in
set_option maxHeartbeats 1000000 in
theorem aggWrite_no (a : Ag) (hr : rightB a = false) (w : World) :
    Calls Try.prog 8 #[agV a] w fun e w' => e = .returned (.tuple #[.slice none 0 0, .int .i64 3]) ∧ Below w.heap.size w w' := by
  have HR : Hid _ := right_any a (w.alloc (.cells #[.int .u64 a.c, .bool a.o, .int .i64 (hi a.s), .int .u64 (lo a.s), .int .i64 a.mn, .int .i64 a.mx] 28))
  rw [hr] at HR
  clear hr
  unfold agV
  go_enter Try.func8, Try.ntmps8
  go_wp2_with fail
  refine Calls.mono HR.out ?_
  rintro e w1 ⟨rfl, hb1⟩
  have HB1 : Hid (Below w.heap.size w w1) := ((Below.refl _ _).alloc (Nat.le_refl _) _).trans (hb1.mono (by simp))
  clear hb1
  go_wp2_with fail
  go_ret2
  exact ⟨rfl, HB1.out⟩
/-- What Write answers. -/
def wrE (a : Ag) : Int := if rightB a = true then 0 else 3
def wrU (a : Ag) : List UInt8 := if rightB a = true then aggU a else []
theorem aggWrite_any (a : Ag) (h : AgOk a) (w : World) :
    Calls Try.prog 8 #[agV a] w fun e w' => ∃ v, e = .returned (.tuple #[v, .int .i64 (wrE a)]) ∧ Own w' w.heap.size v (wrU a) ∧ Below w.heap.size w w' := by
  unfold wrE wrU
  cases hr : rightB a with
  | false =>
    refine (aggWrite_no a hr w).mono ?_
    rintro e w' ⟨rfl, hb⟩
    exact ⟨_, by simp, Own.nil _ _, hb⟩
  | true =>
    have key : ∀ (e : Ending) (w' : World), (∃ v, e = .returned (.tuple #[v, .int .i64 0]) ∧ w'.ownsRow (w.heap.size + 1) 5 1 v 41 ((aggBytes a).map (Value.int .u8)) ∧ Below w.heap.size w w') → ∃ v, e = .returned (.tuple #[v, .int .i64 0]) ∧ Own w' w.heap.size v (aggU a) ∧ Below w.heap.size w w' := by
      rintro e w' ⟨v, rfl, ho, hb⟩
      refine ⟨v, rfl, ?_, hb⟩
      rw [aggU_cells a h] at ho
      show w'.ownsRow w.heap.size 5 1 v (aggU a).length ((aggU a).map bc)
      rw [aggU_len]
      exact own_mono ho (by omega)
    cases ho : a.o with
    | false => refine (aggWrite_plain a ho hr ⟨h.c1, h.c2⟩ w).mono ?_; simpa using key
    | true => refine (aggWrite_over a ho hr ⟨h.c1, h.c2⟩ w).mono ?_; simpa using key
/-- What Read answers. -/
def rdG (l : List UInt8) : Prop := (l.getD 0 0).toNat ≤ 1 ∧ rightB (decU l) = true
instance (l : List UInt8) : Decidable (rdG l) := inferInstanceAs (Decidable (_ ∧ _))
def rdA (l : List UInt8) : Ag := if l.length = 41 ∧ rdG l then decU l else aZ
def rdR (l : List UInt8) : Int := if l.length < 41 then 10 else if 41 < l.length then 2 else if rdG l then 0 else 3
end Go.Proofs.Ythnhhdacfmikmaa
