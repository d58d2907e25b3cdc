/- RO1 G2r, joined. -/
import Derived.Test.YtoenijflijfogaaGreatRC9
import Derived.Test.YtoenijflijfogaaGreatRC22
import Derived.Test.YtoenijflijfogaaGreatRC37
/- The contract of the reference's One (out of RM2). -/
namespace Go.Proofs.YtoenijflijfogaaGreat
open Go.RowKit

set_option maxRecDepth 100000 in
set_option maxHeartbeats 1000000 in
theorem refOne_any (v : Int) (h1 : -9223372036854775808 ≤ v) (h2 : v ≤ 9223372036854775807) (w : World) :
    Calls Tryz.prog 44 #[.int .i64 v] w fun e w' => e = .returned (.agg #[.int .u64 (oneF v).c, .bool (oneF v).o, .int .i64 (hi (oneF v).s), .int .u64 (lo (oneF v).s), .int .i64 (oneF v).mn, .int .i64 (oneF v).mx]) ∧ Below w.heap.size w w' := by
  obtain ⟨O, HO⟩ := hid_ex (oneF v)
  have HOE : Hid (O.c = 1 ∧ O.o = false ∧ O.s = v ∧ O.mn = v ∧ O.mx = v) := by rw [HO.out]; exact ⟨rfl, rfl, rfl, rfl, rfl⟩
  rw [← HO.out]
  clear HO
  go_enter Tryz.func44, Tryz.ntmps44
  go_wp2_with fail
  refine (refOf_any v h1 h2 _).mono ?_
  rintro e w1 ⟨rfl, hb1⟩
  have HZ : Hid (w1.heap[w.heap.size]? = some (.cells #[.int .u64 0, .bool false, .int .i64 0, .int .u64 0, .int .i64 0, .int .i64 0] 36)) := (hb1.block _ (by simp)).trans (heap_alloc_new w _)
  have HB : Hid (Below w.heap.size w w1) := ((Below.refl _ _).alloc (Nat.le_refl _) _).trans (hb1.mono (by simp))
  clear hb1
  have z0 := c_rw HZ.out 0 (by simp)
  have z1 := c_rw HZ.out 1 (by simp)
  have z2 := c_rw HZ.out 2 (by simp)
  have z3 := c_rw HZ.out 3 (by simp)
  have z4 := c_rw HZ.out 4 (by simp)
  have z5 := c_rw HZ.out 5 (by simp)
  simp only [List.getElem_toArray, List.getElem_cons_succ, List.getElem_cons_zero] at z0 z1 z2 z3 z4 z5
  have f0 := f_rw HZ.out 0
  have f1 := f_rw HZ.out 1
  have f2 := f_rw HZ.out 2
  have f3 := f_rw HZ.out 3
  have f4 := f_rw HZ.out 4
  have f5 := f_rw HZ.out 5
  unfold wv
  go_wp2_with fail
  exact bodyPost_ret (res_r rfl _ _ w.heap.size _ rfl (run_loadVar_row _ w.heap.size _ _ _ (0, 0) _ (set6' HZ.out _ _ _ _ _ _) Tryz.underlying36 rfl (by kernel_rfl))) rfl ⟨by rw [HOE.out.1, HOE.out.2.1, HOE.out.2.2.1, HOE.out.2.2.2.1, HOE.out.2.2.2.2], below6' HB.out (Nat.le_refl _) _ _ _ _ _ _⟩
end Go.Proofs.YtoenijflijfogaaGreat

/- The contracts of the reference's Time and Floor. -/
namespace Go.Proofs.YtoenijflijfogaaGreat
open Go.RowKit

set_option maxHeartbeats 400000 in
theorem refTime_any (t : Int) (w : World) : Calls Tryz.prog 28 #[.int .i64 t] w fun e w' => e = .returned (.bool (isT t)) ∧ w' = w := by
  unfold isT
  generalize h1 : decide (0 ≤ t) = p
  generalize h2 : decide (t ≤ 1099511627776) = q
  cases p <;> cases q <;>
  · go_enter Tryz.func28, Tryz.ntmps28
    go_wp2_with fail
    go_ret
    exact ⟨rfl, rfl⟩
set_option maxHeartbeats 400000 in
theorem refFloor_any (t s : Int) (w : World) : Calls Tryz.prog 41 #[.int .i64 t, .int .i64 s] w fun e w' => e = .returned (floorV t s) ∧ w' = w := by
  unfold floorV
  cases ht : isT t
  · go_enter Tryz.func41, Tryz.ntmps41
    go_wp2_with fail
    refine (refTime_any t _).mono ?_
    rw [ht]
    rintro e w' ⟨rfl, rfl⟩
    go_wp2_with fail
    go_ret2
    exact ⟨rfl, rfl⟩
  · cases hs : isS s
    · have hS := hs
      unfold isS at hS
      by_cases h1 : s < 1
      · have g1 : decide (s < 1) = true := by simpa using h1
        clear hS h1
        go_enter Tryz.func41, Tryz.ntmps41
        go_wp2_with fail
        refine (refTime_any t _).mono ?_
        rw [ht]
        rintro e w' ⟨rfl, rfl⟩
        go_wp2_with fail
        go_ret2
        exact ⟨rfl, rfl⟩
      · have g1 : decide (s < 1) = false := by simpa using h1
        have g2 : decide (1099511627776 < s) = true := by simp at hS ⊢; omega
        clear hS h1
        go_enter Tryz.func41, Tryz.ntmps41
        go_wp2_with fail
        refine (refTime_any t _).mono ?_
        rw [ht]
        rintro e w' ⟨rfl, rfl⟩
        go_wp2_with fail
        go_ret2
        exact ⟨rfl, rfl⟩
    · obtain ⟨t1, t2⟩ := (isT_iff t).1 ht
      obtain ⟨s1, s2⟩ := (isS_iff s).1 hs
      have hb := mod_bd t s t1 s1
      have g1 : decide (s < 1) = false := by simp; omega
      have g2 : decide (1099511627776 < s) = false := by simp; omega
      have hs0 : s ≠ 0 := by omega
      have et : Int.tdiv t s = t / s := Int.tdiv_eq_ediv_of_nonneg t1
      have em : t / s * s = t - t % s := by have := Int.emod_add_mul_ediv t s; rw [Int.mul_comm] at this; omega
      have q1 : 0 ≤ t / s := Int.ediv_nonneg t1 (by omega)
      have q2 : t / s ≤ t := Int.ediv_le_self _ t1
      clear hs
      go_enter Tryz.func41, Tryz.ntmps41
      go_wp2_with fail
      refine (refTime_any t _).mono ?_
      rw [ht]
      rintro e w' ⟨rfl, rfl⟩
      clear ht
      go_wp2_with fail
      go_ret2
      exact ⟨rfl, rfl⟩
end Go.Proofs.YtoenijflijfogaaGreat
