/- Pl W1 A1 A2, joined. -/
import Derived.WalkKit
import Derived.Laws.Bits64
import Derived.Test.YtlpjdfgknmfmnaaRows
import Derived.WalkSpells
import Derived.WalkLawsBesides
import Derived.Laws.Externs
import Derived.Lib.Mul64
import Derived.Laws.Bits64b
import Derived.Deep.RegionHeld3
import Derived.BigQuiet
import Derived.Deep.QuietTactic
/- Plain arithmetic of numbers of 128 binary digits, told by their upper half (with sign) and lower half: no program in sight. -/
namespace Go.Proofs.Ytlpjdfgknmfmnaa
open Go.RowKit

/-- The lower half of a number, modulo 2^128. -/
def lo (x : Int) : Int := x % 18446744073709551616
/-- The upper half of a number, modulo 2^128, with its sign. -/
def hi (x : Int) : Int := (x / 18446744073709551616 + 9223372036854775808) % 18446744073709551616 - 9223372036854775808

theorem lo_bd (x : Int) : 0 ≤ lo x ∧ lo x < 18446744073709551616 := by unfold lo; omega
theorem hi_bd (x : Int) : -9223372036854775808 ≤ hi x ∧ hi x < 9223372036854775808 := by unfold hi; omega

end Go.Proofs.Ytlpjdfgknmfmnaa

/- The contracts of wide's small functions (Of, carried, Add, Minus) over the translated program: each returns the numbers that plain arithmetic names, and nothing that was there is changed. -/
namespace Go.Proofs.Ytlpjdfgknmfmnaa
open Go.RowKit

theorem take_snocI (l : List Int) (k : Nat) (h : k < l.length) : l.take (k + 1) = l.take k ++ [l.getD k 0] := by
  rw [List.take_succ_eq_append_getElem h]; simp [List.getD, h]
theorem getD_mem (l : List Int) (k : Nat) (h : k < l.length) : l.getD k 0 ∈ l := by
  have e : l.getD k 0 = l[k] := by simp [List.getD, h]
  rw [e]; exact List.getElem_mem h

end Go.Proofs.Ytlpjdfgknmfmnaa

/- The contracts of agg.together, chosen, Merge. -/
namespace Go.Proofs.Ytlpjdfgknmfmnaa
open Go.RowKit

/-- What is known of facts. -/
structure Ag where
  c : Int
  o : Bool
  s : Int
  mn : Int
  mx : Int

end Go.Proofs.Ytlpjdfgknmfmnaa

/- The contracts of agg.Right and One. -/
namespace Go.Proofs.Ytlpjdfgknmfmnaa
open Go.RowKit

def rightB (a : Ag) : Bool := if a.c = 0 then (!a.o && (hi a.s == 0) && (lo a.s == 0) && (a.mn == 0) && (a.mx == 0)) else (decide (a.mn ≤ a.mx) && (!a.o || (a.c == 18446744073709551615)))

set_option maxRecDepth 100000 in
set_option maxHeartbeats 1000000 in
theorem right_zero (a : Ag) (h : a.c = 0) (w : World) :
    Calls Try.prog 48 #[.agg #[.int .u64 a.c, .bool a.o, .int .i64 (hi a.s), .int .u64 (lo a.s), .int .i64 a.mn, .int .i64 a.mx]] w fun e w' => e = .returned (.bool (rightB a)) ∧ Below w.heap.size w w' := by
  obtain ⟨c, o, s, mn, mx⟩ := a
  simp only at h
  subst h
  have hb : ((0 : Int) == 0) = true := rfl
  go_enter Try.func48, Try.ntmps48
  go_wp2_with fail
  all_goals
    go_ret
    refine ⟨?_, (Below.refl _ _).alloc (by simp) _⟩
    simp [rightB, *]
set_option maxRecDepth 100000 in
set_option maxHeartbeats 1000000 in
theorem right_some (a : Ag) (h : a.c ≠ 0) (w : World) :
    Calls Try.prog 48 #[.agg #[.int .u64 a.c, .bool a.o, .int .i64 (hi a.s), .int .u64 (lo a.s), .int .i64 a.mn, .int .i64 a.mx]] w fun e w' => e = .returned (.bool (rightB a)) ∧ Below w.heap.size w w' := by
  have e : rightB a = (decide (a.mn ≤ a.mx) && (!a.o || (a.c == 18446744073709551615))) := by unfold rightB; rw [if_neg h]
  have hb : (a.c == 0) = false := by simp [h]
  by_cases h1 : a.mn ≤ a.mx
  · have hd : decide (a.mn ≤ a.mx) = true := by simpa using h1
    cases ho : a.o
    · have HE : Hid (rightB a = true) := by unfold Hid; rw [e, hd, ho]; rfl
      clear e h h1 ho
      go_enter Try.func48, Try.ntmps48
      go_wp2_with fail
      go_ret
      exact ⟨by rw [HE.out]; rfl, (Below.refl _ _).alloc (by simp) _⟩
    · have HE : Hid (rightB a = (a.c == 18446744073709551615)) := by unfold Hid; rw [e, hd, ho]; simp
      clear e h h1 ho
      generalize hm : (a.c == 18446744073709551615) = mm at *
      cases mm
      · go_enter Try.func48, Try.ntmps48
        go_wp2_with fail
        go_ret
        exact ⟨by rw [HE.out]; rfl, (Below.refl _ _).alloc (by simp) _⟩
      · go_enter Try.func48, Try.ntmps48
        go_wp2_with fail
        go_ret
        exact ⟨by rw [HE.out]; rfl, (Below.refl _ _).alloc (by simp) _⟩
  · have hd : decide (a.mn ≤ a.mx) = false := by simpa using h1
    have HE : Hid (rightB a = false) := by unfold Hid; rw [e, hd]; rfl
    clear e h h1
    go_enter Try.func48, Try.ntmps48
    go_wp2_with fail
    go_ret
    exact ⟨by rw [HE.out]; rfl, (Below.refl _ _).alloc (by simp) _⟩
theorem right_any (a : Ag) (w : World) :
    Calls Try.prog 48 #[.agg #[.int .u64 a.c, .bool a.o, .int .i64 (hi a.s), .int .u64 (lo a.s), .int .i64 a.mn, .int .i64 a.mx]] w fun e w' => e = .returned (.bool (rightB a)) ∧ Below w.heap.size w w' := by
  by_cases h : a.c = 0
  · exact right_zero a h w
  · exact right_some a h w

end Go.Proofs.Ytlpjdfgknmfmnaa
