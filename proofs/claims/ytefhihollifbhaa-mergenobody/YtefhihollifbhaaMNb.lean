/- A heap that is nil, or that no call made, has nothing. -/
import Derived.Test.YtefhihollifbhaaMG15
namespace Go.Proofs.Ytefhihollifbhaa
open Go.RowKit

set_option maxRecDepth 100000 in
set_option maxHeartbeats 2000000 in
theorem mnobody_walk (w : World) : Calls Try.prog 5 #[] w fun e w' => e = .returned (.bool true) ∧ Below w.heap.size w w' := by
  go_enter Try.func5, Try.ntmps5
  go_wp2_with fail
  obtain ⟨w0, HW0⟩ := hid_ex (w.alloc (.cells #[.slice none 0 0] 50))
  have HX0 : Hid (w0.heap[w.heap.size]? = some (.cells #[.slice none 0 0] 50)) := by rw [HW0.out]; exact heap_alloc_new _ _
  have HB0 : Hid (Below w.heap.size w w0) := by rw [HW0.out]; exact (Below.refl _ _).alloc (Nat.le_refl _) _
  rw [← HW0.out]
  refine (next_nil _).mono ?_
  rintro e w1 ⟨rfl, hb1⟩
  have HX1 : Hid (w1.heap[w.heap.size]? = some (.cells #[.slice none 0 0] 50)) := (hb1.block _ (Array.getElem?_eq_some_iff.1 HX0.out).1).trans HX0.out
  have HB1 : Hid (Below w.heap.size w w1) := HB0.out.trans (hb1.mono HB0.out.size)
  clear hb1 HB0 HX0 HW0
  unfold env
  go_wp2_with fail
  obtain ⟨w2, HW2⟩ := hid_ex (w1.alloc (.cells #[.slice none 0 0, .int .u64 agZ.c, .bool agZ.o, .int .i64 (hi agZ.s), .int .u64 (lo agZ.s), .int .i64 agZ.mn, .int .i64 agZ.mx] 41))
  have hb2 : Below w1.heap.size w1 w2 := by rw [HW2.out]; exact (Below.refl _ _).alloc (Nat.le_refl _) _
  have HX2 : Hid (w2.heap[w.heap.size]? = some (.cells #[.slice none 0 0] 50)) := (hb2.block _ (Array.getElem?_eq_some_iff.1 HX1.out).1).trans HX1.out
  have HB2 : Hid (Below w.heap.size w w2) := HB1.out.trans (hb2.mono HB1.out.size)
  rw [← HW2.out]
  clear hb2 HB1 HX1 HW2
  refine (next_none w.heap.size _ _ 0 none rfl (cell_row HX2.out 0 (by simp)).1).mono ?_
  rintro e w3 ⟨rfl, hb3⟩
  have HB3 : Hid (Below w.heap.size w w3) := HB2.out.trans (hb3.mono HB2.out.size)
  clear hb3 HB2 HX2
  unfold env
  go_wp2_with fail
  refine (alive_any _).mono ?_
  rintro e w4 ⟨rfl, hb4⟩
  have HB4 : Hid (Below w.heap.size w w4) := (HB3.out.alloc HB3.out.size _).trans (hb4.mono (by have := HB3.out.size; simp; omega))
  clear hb4
  go_wp2_with fail
  go_ret
  exact ⟨rfl, HB4.out⟩
end Go.Proofs.Ytefhihollifbhaa
