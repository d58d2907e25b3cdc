/- G1 G2, joined. -/
import Derived.Test.YtoenijflijfogaaRows
import Derived.WalkKit
import Derived.WalkSpells
import Derived.WalkLawsBesides
import Derived.Below
/- The contracts of grain's small functions. -/
namespace Go.Proofs.Ytoenijflijfogaa
open Go.RowKit

/-- A time. -/
def isT (t : Int) : Bool := decide (0 ≤ t) && decide (t ≤ 1099511627776)
/-- A size. -/
def isS (t : Int) : Bool := decide (1 ≤ t) && decide (t ≤ 1099511627776)
theorem isT_iff (t : Int) : isT t = true ↔ 0 ≤ t ∧ t ≤ 1099511627776 := by simp [isT]
theorem isS_iff (t : Int) : isS t = true ↔ 1 ≤ t ∧ t ≤ 1099511627776 := by simp [isS]

set_option maxHeartbeats 400000 in
theorem isTime_any (t : Int) (w : World) : Calls Try.prog 43 #[.int .i64 t] w fun e w' => e = .returned (.bool (isT t)) ∧ w' = w := by
  unfold isT
  generalize h1 : decide (0 ≤ t) = p
  generalize h2 : decide (t ≤ 1099511627776) = q
  cases p <;> cases q <;>
  · go_enter Try.func43, Try.ntmps43
    go_wp2_with fail
    go_ret
    exact ⟨rfl, rfl⟩
set_option maxHeartbeats 400000 in
theorem isSize_any (t : Int) (w : World) : Calls Try.prog 58 #[.int .i64 t] w fun e w' => e = .returned (.bool (isS t)) ∧ w' = w := by
  unfold isS
  generalize h1 : decide (1 ≤ t) = p
  generalize h2 : decide (t ≤ 1099511627776) = q
  cases p <;> cases q <;>
  · go_enter Try.func58, Try.ntmps58
    go_wp2_with fail
    go_ret
    exact ⟨rfl, rfl⟩
theorem emod_leI (t s : Int) (t1 : 0 ≤ t) (s1 : 0 < s) : t % s ≤ t := by
  have h := Int.emod_add_mul_ediv t s
  have : 0 ≤ s * (t / s) := Int.mul_nonneg (by omega) (Int.ediv_nonneg t1 (by omega))
  omega
theorem mod_bd (t s : Int) (t1 : 0 ≤ t) (s1 : 1 ≤ s) : 0 ≤ t % s ∧ t % s ≤ t ∧ t % s < s :=
  ⟨Int.emod_nonneg _ (by omega), emod_leI t s t1 (by omega), Int.emod_lt_of_pos _ (by omega)⟩
set_option maxHeartbeats 400000 in
theorem begin_any (t s : Int) (ht : isT t = true) (hs : isS s = true) (w : World) : Calls Try.prog 44 #[.int .i64 t, .int .i64 s] w fun e w' => e = .returned (.int .i64 (t - t % s)) ∧ w' = w := by
  obtain ⟨t1, t2⟩ := (isT_iff t).1 ht
  obtain ⟨s1, s2⟩ := (isS_iff s).1 hs
  have hs0 : s ≠ 0 := by omega
  have hb := mod_bd t s t1 s1
  have et : Int.tmod t s = t % s := Int.tmod_eq_emod_of_nonneg t1
  clear ht hs
  go_enter Try.func44, Try.ntmps44
  go_wp2_with fail
  go_ret
  exact ⟨rfl, rfl⟩
end Go.Proofs.Ytoenijflijfogaa

/- The contracts of grain's end, follows and Floor, and of the reference's Time and Floor. -/
namespace Go.Proofs.Ytoenijflijfogaa
open Go.RowKit

/-- Where a bucket ends. -/
def endF (t s : Int) : Int := t - t % s + s
set_option maxHeartbeats 400000 in
theorem end_any (t s : Int) (ht : isT t = true) (hs : isS s = true) (w : World) : Calls Try.prog 29 #[.int .i64 t, .int .i64 s] w fun e w' => e = .returned (.int .i64 (endF t s)) ∧ w' = w := by
  obtain ⟨t1, t2⟩ := (isT_iff t).1 ht
  obtain ⟨s1, s2⟩ := (isS_iff s).1 hs
  have hb := mod_bd t s t1 s1
  unfold endF
  go_enter Try.func29, Try.ntmps29
  go_wp2_with fail
  refine (begin_any t s ht hs _).mono ?_
  rintro e w' ⟨rfl, rfl⟩
  clear ht hs
  go_wp2_with fail
  go_ret
  exact ⟨rfl, rfl⟩

/-- A step may stand behind another one. -/
def folB (s0 a0 s1 a1 : Int) : Bool := decide (s0 < s1) && ((s1 % s0 == 0) && decide (a0 ≤ a1))
set_option maxHeartbeats 400000 in
theorem follows_any (s0 a0 s1 a1 : Int) (h0 : isS s0 = true) (h1 : isS s1 = true) (w : World) : Calls Try.prog 59 #[.agg #[.int .i64 s0, .int .i64 a0], .agg #[.int .i64 s1, .int .i64 a1]] w fun e w' => e = .returned (.bool (folB s0 a0 s1 a1)) ∧ Below w.heap.size w w' := by
  obtain ⟨p1, p2⟩ := (isS_iff s0).1 h0
  obtain ⟨q1, q2⟩ := (isS_iff s1).1 h1
  have hs0 : s0 ≠ 0 := by omega
  have hb := mod_bd s1 s0 (by omega) (by omega)
  have et : Int.tmod s1 s0 = s1 % s0 := Int.tmod_eq_emod_of_nonneg (by omega)
  clear h0 h1
  have HB : Hid (∀ o1 o2, Below w.heap.size w ((w.alloc o1).alloc o2)) := fun o1 o2 => ((Below.refl _ _).alloc (by simp) _).alloc (by simp) _
  unfold folB
  generalize h1 : decide (s0 < s1) = p
  generalize h2 : (s1 % s0 == 0) = q
  generalize h3 : decide (a0 ≤ a1) = r
  cases p <;> cases q <;> cases r <;>
  · go_enter Try.func59, Try.ntmps59
    go_wp2_with fail
    go_ret
    exact ⟨rfl, HB.out _ _⟩

/-- What Floor tells. -/
def floorV (t s : Int) : Value := .tuple #[.int .i64 (if isT t && isS s then t - t % s else 0), .int .i64 (if isT t && isS s then 0 else 1)]
set_option maxHeartbeats 400000 in
theorem floor_any (t s : Int) (w : World) : Calls Try.prog 88 #[.int .i64 t, .int .i64 s] w fun e w' => e = .returned (floorV t s) ∧ w' = w := by
  unfold floorV
  cases ht : isT t
  · go_enter Try.func88, Try.ntmps88
    go_wp2_with fail
    refine (isTime_any t _).mono ?_
    rw [ht]
    rintro e w' ⟨rfl, rfl⟩
    go_wp2_with fail
    go_ret2
    exact ⟨rfl, rfl⟩
  · cases hs : isS s
    · go_enter Try.func88, Try.ntmps88
      go_wp2_with fail
      refine (isTime_any t _).mono ?_
      rw [ht]
      rintro e w' ⟨rfl, rfl⟩
      go_wp2_with fail
      refine (isSize_any s _).mono ?_
      rw [hs]
      rintro e w' ⟨rfl, rfl⟩
      go_wp2_with fail
      go_ret2
      exact ⟨rfl, rfl⟩
    · go_enter Try.func88, Try.ntmps88
      go_wp2_with fail
      refine (isTime_any t _).mono ?_
      rw [ht]
      rintro e w' ⟨rfl, rfl⟩
      go_wp2_with fail
      refine (isSize_any s _).mono ?_
      rw [hs]
      rintro e w' ⟨rfl, rfl⟩
      go_wp2_with fail
      refine (begin_any t s ht hs _).mono ?_
      rintro e w' ⟨rfl, rfl⟩
      go_wp2_with fail
      go_ret2
      exact ⟨rfl, rfl⟩
end Go.Proofs.Ytoenijflijfogaa
