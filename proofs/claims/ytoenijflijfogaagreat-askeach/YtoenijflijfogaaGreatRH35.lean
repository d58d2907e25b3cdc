/- G2r, joined. -/
import Derived.Test.YtoenijflijfogaaGreatRH9
/- The contracts of the reference's Time and Floor. -/
namespace Go.Proofs.YtoenijflijfogaaGreat
open Go.RowKit

set_option maxHeartbeats 400000 in
theorem refTime_any (t : Int) (w : World) : Calls Tryz.prog 28 #[.int .i64 t] w fun e w' => e = .returned (.bool (isT t)) ∧ w' = w := by
  unfold isT
  generalize h1 : decide (0 ≤ t) = p
  generalize h2 : decide (t ≤ 1099511627776) = q
  cases p <;> cases q <;>
  · go_enter Tryz.func28, Tryz.ntmps28
    go_wp2_with fail
    go_ret
    exact ⟨rfl, rfl⟩
set_option maxHeartbeats 400000 in
theorem refFloor_any (t s : Int) (w : World) : Calls Tryz.prog 41 #[.int .i64 t, .int .i64 s] w fun e w' => e = .returned (floorV t s) ∧ w' = w := by
  unfold floorV
  cases ht : isT t
  · go_enter Tryz.func41, Tryz.ntmps41
    go_wp2_with fail
    refine (refTime_any t _).mono ?_
    rw [ht]
    rintro e w' ⟨rfl, rfl⟩
    go_wp2_with fail
    go_ret2
    exact ⟨rfl, rfl⟩
  · cases hs : isS s
    · have hS := hs
      unfold isS at hS
      by_cases h1 : s < 1
      · have g1 : decide (s < 1) = true := by simpa using h1
        clear hS h1
        go_enter Tryz.func41, Tryz.ntmps41
        go_wp2_with fail
        refine (refTime_any t _).mono ?_
        rw [ht]
        rintro e w' ⟨rfl, rfl⟩
        go_wp2_with fail
        go_ret2
        exact ⟨rfl, rfl⟩
      · have g1 : decide (s < 1) = false := by simpa using h1
        have g2 : decide (1099511627776 < s) = true := by simp at hS ⊢; omega
        clear hS h1
        go_enter Tryz.func41, Tryz.ntmps41
        go_wp2_with fail
        refine (refTime_any t _).mono ?_
        rw [ht]
        rintro e w' ⟨rfl, rfl⟩
        go_wp2_with fail
        go_ret2
        exact ⟨rfl, rfl⟩
    · obtain ⟨t1, t2⟩ := (isT_iff t).1 ht
      obtain ⟨s1, s2⟩ := (isS_iff s).1 hs
      have hb := mod_bd t s t1 s1
      have g1 : decide (s < 1) = false := by simp; omega
      have g2 : decide (1099511627776 < s) = false := by simp; omega
      have hs0 : s ≠ 0 := by omega
      have et : Int.tdiv t s = t / s := Int.tdiv_eq_ediv_of_nonneg t1
      have em : t / s * s = t - t % s := by have := Int.emod_add_mul_ediv t s; rw [Int.mul_comm] at this; omega
      have q1 : 0 ≤ t / s := Int.ediv_nonneg t1 (by omega)
      have q2 : t / s ≤ t := Int.ediv_le_self _ t1
      clear hs
      go_enter Tryz.func41, Tryz.ntmps41
      go_wp2_with fail
      refine (refTime_any t _).mono ?_
      rw [ht]
      rintro e w' ⟨rfl, rfl⟩
      clear ht
      go_wp2_with fail
      go_ret2
      exact ⟨rfl, rfl⟩
end Go.Proofs.YtoenijflijfogaaGreat
