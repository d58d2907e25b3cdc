/- The contracts of grain's end, follows and Floor, and of the reference's Time and Floor. -/
import Derived.Test.YtfgnojmpnkjdmaaG1
namespace Go.Proofs.Ytfgnojmpnkjdmaa
open Go.RowKit

/-- Where a bucket ends. -/
def endF (t s : Int) : Int := t - t % s + s
set_option maxHeartbeats 400000 in
theorem end_any (t s : Int) (ht : isT t = true) (hs : isS s = true) (w : World) : Calls Try.prog 30 #[.int .i64 t, .int .i64 s] w fun e w' => e = .returned (.int .i64 (endF t s)) ∧ w' = w := by
  obtain ⟨t1, t2⟩ := (isT_iff t).1 ht
  obtain ⟨s1, s2⟩ := (isS_iff s).1 hs
  have hb := mod_bd t s t1 s1
  unfold endF
  go_enter Try.func30, Try.ntmps30
  go_wp2_with fail
  refine (begin_any t s ht hs _).mono ?_
  rintro e w' ⟨rfl, rfl⟩
  clear ht hs
  go_wp2_with fail
  go_ret
  exact ⟨rfl, rfl⟩

/-- A step may stand behind another one. -/
def folB (s0 a0 s1 a1 : Int) : Bool := decide (s0 < s1) && ((s1 % s0 == 0) && decide (a0 ≤ a1))
set_option maxHeartbeats 400000 in
theorem follows_any (s0 a0 s1 a1 : Int) (h0 : isS s0 = true) (h1 : isS s1 = true) (w : World) : Calls Try.prog 26 #[.agg #[.int .i64 s0, .int .i64 a0], .agg #[.int .i64 s1, .int .i64 a1]] w fun e w' => e = .returned (.bool (folB s0 a0 s1 a1)) ∧ Below w.heap.size w w' := by
  obtain ⟨p1, p2⟩ := (isS_iff s0).1 h0
  obtain ⟨q1, q2⟩ := (isS_iff s1).1 h1
  have hs0 : s0 ≠ 0 := by omega
  have hb := mod_bd s1 s0 (by omega) (by omega)
  have et : Int.tmod s1 s0 = s1 % s0 := Int.tmod_eq_emod_of_nonneg (by omega)
  clear h0 h1
  have HB : Hid (∀ o1 o2, Below w.heap.size w ((w.alloc o1).alloc o2)) := fun o1 o2 => ((Below.refl _ _).alloc (by simp) _).alloc (by simp) _
  unfold folB
  generalize h1 : decide (s0 < s1) = p
  generalize h2 : (s1 % s0 == 0) = q
  generalize h3 : decide (a0 ≤ a1) = r
  cases p <;> cases q <;> cases r <;>
  · go_enter Try.func26, Try.ntmps26
    go_wp2_with fail
    go_ret
    exact ⟨rfl, HB.out _ _⟩

/-- What Floor tells. -/
def floorV (t s : Int) : Value := .tuple #[.int .i64 (if isT t && isS s then t - t % s else 0), .int .i64 (if isT t && isS s then 0 else 1)]
set_option maxHeartbeats 400000 in
theorem floor_any (t s : Int) (w : World) : Calls Try.prog 9 #[.int .i64 t, .int .i64 s] w fun e w' => e = .returned (floorV t s) ∧ w' = w := by
  unfold floorV
  cases ht : isT t
  · go_enter Try.func9, Try.ntmps9
    go_wp2_with fail
    refine (isTime_any t _).mono ?_
    rw [ht]
    rintro e w' ⟨rfl, rfl⟩
    go_wp2_with fail
    go_ret2
    exact ⟨rfl, rfl⟩
  · cases hs : isS s
    · go_enter Try.func9, Try.ntmps9
      go_wp2_with fail
      refine (isTime_any t _).mono ?_
      rw [ht]
      rintro e w' ⟨rfl, rfl⟩
      go_wp2_with fail
      refine (isSize_any s _).mono ?_
      rw [hs]
      rintro e w' ⟨rfl, rfl⟩
      go_wp2_with fail
      go_ret2
      exact ⟨rfl, rfl⟩
    · go_enter Try.func9, Try.ntmps9
      go_wp2_with fail
      refine (isTime_any t _).mono ?_
      rw [ht]
      rintro e w' ⟨rfl, rfl⟩
      go_wp2_with fail
      refine (isSize_any s _).mono ?_
      rw [hs]
      rintro e w' ⟨rfl, rfl⟩
      go_wp2_with fail
      refine (begin_any t s ht hs _).mono ?_
      rintro e w' ⟨rfl, rfl⟩
      go_wp2_with fail
      go_ret2
      exact ⟨rfl, rfl⟩
end Go.Proofs.Ytfgnojmpnkjdmaa
