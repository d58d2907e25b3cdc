/- RO1, joined. -/
import Derived.Test.YtgjcopabmdbenaaGreatQZ10
import Derived.Test.YtgjcopabmdbenaaGreatQZ27
/- The contract of the reference's One (out of RM2). -/
namespace Go.Proofs.YtgjcopabmdbenaaGreat
open Go.RowKit

set_option maxRecDepth 100000 in
set_option maxHeartbeats 1000000 in
theorem refOne_any (v : Int) (h1 : -9223372036854775808 ≤ v) (h2 : v ≤ 9223372036854775807) (w : World) :
    Calls Tryz.prog 47 #[.int .i64 v] w fun e w' => e = .returned (.agg #[.int .u64 (oneF v).c, .bool (oneF v).o, .int .i64 (hi (oneF v).s), .int .u64 (lo (oneF v).s), .int .i64 (oneF v).mn, .int .i64 (oneF v).mx]) ∧ Below w.heap.size w w' := by
  obtain ⟨O, HO⟩ := hid_ex (oneF v)
  have HOE : Hid (O.c = 1 ∧ O.o = false ∧ O.s = v ∧ O.mn = v ∧ O.mx = v) := by rw [HO.out]; exact ⟨rfl, rfl, rfl, rfl, rfl⟩
  rw [← HO.out]
  clear HO
  go_enter Tryz.func47, Tryz.ntmps47
  go_wp2_with fail
  refine (refOf_any v h1 h2 _).mono ?_
  rintro e w1 ⟨rfl, hb1⟩
  have HZ : Hid (w1.heap[w.heap.size]? = some (.cells #[.int .u64 0, .bool false, .int .i64 0, .int .u64 0, .int .i64 0, .int .i64 0] 43)) := (hb1.block _ (by simp)).trans (heap_alloc_new w _)
  have HB : Hid (Below w.heap.size w w1) := ((Below.refl _ _).alloc (Nat.le_refl _) _).trans (hb1.mono (by simp))
  clear hb1
  have z0 := c_rw HZ.out 0 (by simp)
  have z1 := c_rw HZ.out 1 (by simp)
  have z2 := c_rw HZ.out 2 (by simp)
  have z3 := c_rw HZ.out 3 (by simp)
  have z4 := c_rw HZ.out 4 (by simp)
  have z5 := c_rw HZ.out 5 (by simp)
  simp only [List.getElem_toArray, List.getElem_cons_succ, List.getElem_cons_zero] at z0 z1 z2 z3 z4 z5
  have f0 := f_rw HZ.out 0
  have f1 := f_rw HZ.out 1
  have f2 := f_rw HZ.out 2
  have f3 := f_rw HZ.out 3
  have f4 := f_rw HZ.out 4
  have f5 := f_rw HZ.out 5
  unfold wv
  go_wp2_with fail
  exact bodyPost_ret (res_r rfl _ _ w.heap.size _ rfl (run_loadVar_row _ w.heap.size _ _ _ (0, 0) _ (set6' HZ.out _ _ _ _ _ _) Tryz.underlying43 rfl (by kernel_rfl))) rfl ⟨by rw [HOE.out.1, HOE.out.2.1, HOE.out.2.2.1, HOE.out.2.2.2.1, HOE.out.2.2.2.2], below6' HB.out (Nat.le_refl _) _ _ _ _ _ _⟩
end Go.Proofs.YtgjcopabmdbenaaGreat
