/- A2, joined. -/
import Derived.Test.YtgjcopabmdbenaaGreatQZ8
/- The contracts of agg.Right and One. -/
namespace Go.Proofs.YtgjcopabmdbenaaGreat
open Go.RowKit

def rightB (a : Ag) : Bool := if a.c = 0 then (!a.o && (hi a.s == 0) && (lo a.s == 0) && (a.mn == 0) && (a.mx == 0)) else (decide (a.mn ≤ a.mx) && (!a.o || (a.c == 18446744073709551615)))

set_option maxRecDepth 100000 in
set_option maxHeartbeats 1000000 in
theorem right_zero (a : Ag) (h : a.c = 0) (w : World) :
    Calls Tryz.prog 50 #[.agg #[.int .u64 a.c, .bool a.o, .int .i64 (hi a.s), .int .u64 (lo a.s), .int .i64 a.mn, .int .i64 a.mx]] w fun e w' => e = .returned (.bool (rightB a)) ∧ Below w.heap.size w w' := by
  obtain ⟨c, o, s, mn, mx⟩ := a
  simp only at h
  subst h
  have hb : ((0 : Int) == 0) = true := rfl
  go_enter Tryz.func50, Tryz.ntmps50
  go_wp2_with fail
  all_goals
    go_ret
    refine ⟨?_, (Below.refl _ _).alloc (by simp) _⟩
    simp [rightB, *]
set_option maxRecDepth 100000 in
set_option maxHeartbeats 1000000 in
theorem right_some (a : Ag) (h : a.c ≠ 0) (w : World) :
    Calls Tryz.prog 50 #[.agg #[.int .u64 a.c, .bool a.o, .int .i64 (hi a.s), .int .u64 (lo a.s), .int .i64 a.mn, .int .i64 a.mx]] w fun e w' => e = .returned (.bool (rightB a)) ∧ Below w.heap.size w w' := by
  have e : rightB a = (decide (a.mn ≤ a.mx) && (!a.o || (a.c == 18446744073709551615))) := by unfold rightB; rw [if_neg h]
  have hb : (a.c == 0) = false := by simp [h]
  by_cases h1 : a.mn ≤ a.mx
  · have hd : decide (a.mn ≤ a.mx) = true := by simpa using h1
    cases ho : a.o
    · have HE : Hid (rightB a = true) := by unfold Hid; rw [e, hd, ho]; rfl
      clear e h h1 ho
      go_enter Tryz.func50, Tryz.ntmps50
      go_wp2_with fail
      go_ret
      exact ⟨by rw [HE.out]; rfl, (Below.refl _ _).alloc (by simp) _⟩
    · have HE : Hid (rightB a = (a.c == 18446744073709551615)) := by unfold Hid; rw [e, hd, ho]; simp
      clear e h h1 ho
      generalize hm : (a.c == 18446744073709551615) = mm at *
      cases mm
      · go_enter Tryz.func50, Tryz.ntmps50
        go_wp2_with fail
        go_ret
        exact ⟨by rw [HE.out]; rfl, (Below.refl _ _).alloc (by simp) _⟩
      · go_enter Tryz.func50, Tryz.ntmps50
        go_wp2_with fail
        go_ret
        exact ⟨by rw [HE.out]; rfl, (Below.refl _ _).alloc (by simp) _⟩
  · have hd : decide (a.mn ≤ a.mx) = false := by simpa using h1
    have HE : Hid (rightB a = false) := by unfold Hid; rw [e, hd]; rfl
    clear e h h1
    go_enter Tryz.func50, Tryz.ntmps50
    go_wp2_with fail
    go_ret
    exact ⟨by rw [HE.out]; rfl, (Below.refl _ _).alloc (by simp) _⟩
theorem right_any (a : Ag) (w : World) :
    Calls Tryz.prog 50 #[.agg #[.int .u64 a.c, .bool a.o, .int .i64 (hi a.s), .int .u64 (lo a.s), .int .i64 a.mn, .int .i64 a.mx]] w fun e w' => e = .returned (.bool (rightB a)) ∧ Below w.heap.size w w' := by
  by_cases h : a.c = 0
  · exact right_zero a h w
  · exact right_some a h w

def oneF (v : Int) : Ag := ⟨1, false, v, v, v⟩
set_option maxHeartbeats 400000 in
theorem one_any (v : Int) (h1 : -9223372036854775808 ≤ v) (h2 : v ≤ 9223372036854775807) (w : World) :
    Calls Tryz.prog 15 #[.int .i64 v] w fun e w' => e = .returned (.agg #[.int .u64 (oneF v).c, .bool (oneF v).o, .int .i64 (hi (oneF v).s), .int .u64 (lo (oneF v).s), .int .i64 (oneF v).mn, .int .i64 (oneF v).mx]) ∧ Below w.heap.size w w' := by
  go_enter Tryz.func15, Tryz.ntmps15
  go_wp2_with fail
  refine (of_exact v h1 h2 _).mono ?_
  rintro e w' ⟨rfl, c, rfl⟩
  go_wp2_with fail
  refine bodyPost_ret (v := .agg #[.int .u64 1, .bool false, .int .i64 (hi v), .int .u64 (lo v), .int .i64 v, .int .i64 v]) (by simp [results, Tryz.results15, go_sem]) rfl ⟨rfl, ?_⟩
  exact ((Below.refl _ _).alloc (by simp) _).alloc (by simp) _
end Go.Proofs.YtgjcopabmdbenaaGreat
