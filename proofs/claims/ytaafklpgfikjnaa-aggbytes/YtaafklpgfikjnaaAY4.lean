/- The walk of AggBytes. -/
import Derived.Test.YtaafklpgfikjnaaAY3
import Derived.Test.YtaafklpgfikjnaaA4
namespace Go.Proofs.Ytaafklpgfikjnaa
open Go.RowKit

set_option maxRecDepth 100000 in
set_option maxHeartbeats 4000000 in
theorem bytes_walk (a : Ag) (vb : Value) (b : List UInt8) (w : World) (hA : AgOk a) (hb : Reads w vb b) :
    Calls Try.prog 3 #[.agg #[.int .u64 a.c, .bool a.o, .int .i64 (hi a.s), .int .u64 (lo a.s), .int .i64 a.mn, .int .i64 a.mx], vb] w fun e w' => e = .returned (.bool true) ∧ Below w.heap.size w w' := by
  have HB : Hid (Reads w vb b) := hb
  obtain ⟨ab, cb, rfl, hm⟩ := hb.form
  unfold maxLen at hm
  clear hb
  obtain ⟨X, HX⟩ := hid_ex (rdA b)
  obtain ⟨RR, HRR⟩ := hid_ex (rdR b)
  obtain ⟨E, HE⟩ := hid_ex (wrE a)
  obtain ⟨U, HU⟩ := hid_ex (wrU a)
  have HWA : Hid (∀ w, Calls Try.prog 5 #[.agg #[.int .u64 a.c, .bool a.o, .int .i64 (hi a.s), .int .u64 (lo a.s), .int .i64 a.mn, .int .i64 a.mx]] w fun e w' => ∃ v, e = .returned (.tuple #[v, .int .i64 E]) ∧ Own w' w.heap.size v U ∧ Below w.heap.size w w') := by
    intro w; rw [HE.out, HU.out]; exact aggWrite_any a hA w
  have HWR : Hid (∀ w, Calls Try.prog 6 #[.agg #[.int .u64 a.c, .bool a.o, .int .i64 (hi a.s), .int .u64 (lo a.s), .int .i64 a.mn, .int .i64 a.mx]] w fun e w' => ∃ v, e = .returned (.tuple #[v, .int .i64 E]) ∧ Own w' w.heap.size v U ∧ Below w.heap.size w w') := by
    intro w; rw [HE.out, HU.out]; exact refAW a hA w
  have HRB : Hid (∀ w, Reads w (.slice ab b.length cb) b → Calls Try.prog 7 #[.slice ab b.length cb] w fun e w' => e = .returned (.tuple #[.agg #[.int .u64 X.c, .bool X.o, .int .i64 (hi X.s), .int .u64 (lo X.s), .int .i64 X.mn, .int .i64 X.mx], .int .i64 RR]) ∧ Below w.heap.size w w') := by
    intro w h; rw [HX.out, HRR.out]; exact aggRead_any _ b w h
  have HRF : Hid (∀ w, Reads w (.slice ab b.length cb) b → Calls Try.prog 8 #[.slice ab b.length cb] w fun e w' => e = .returned (.tuple #[.agg #[.int .u64 X.c, .bool X.o, .int .i64 (hi X.s), .int .u64 (lo X.s), .int .i64 X.mn, .int .i64 X.mx], .int .i64 RR]) ∧ Below w.heap.size w w') := by
    intro w h; rw [HX.out, HRR.out]; exact refAR _ b w h
  clear hA HX HU HE HRR
  obtain ⟨w1, HW1⟩ := hid_ex (w.alloc (.cells #[.int .u64 a.c, .bool a.o, .int .i64 (hi a.s), .int .u64 (lo a.s), .int .i64 a.mn, .int .i64 a.mx] 26))
  have HB1 : Hid (Below w.heap.size w w1) := by rw [HW1.out]; exact (Below.refl _ _).alloc (Nat.le_refl _) _
  have HA1 : Hid (w1.heap[w.heap.size]? = some (.cells #[.int .u64 a.c, .bool a.o, .int .i64 (hi a.s), .int .u64 (lo a.s), .int .i64 a.mn, .int .i64 a.mx] 26)) := by rw [HW1.out]; exact World.alloc_heap_new _ _
  go_enter Try.func3, Try.ntmps3
  by_cases g1 : (200 : Int) < (b.length : Int)
  · go_wp2_with fail
    rw [← HW1.out]
    refine (alive2_any _).mono ?_
    rintro e w9 ⟨rfl, hb9⟩
    have HB9 : Hid (Below w.heap.size w w9) := HB1.out.trans (hb9.mono HB1.out.size)
    clear hb9
    go_wp2_with fail
    go_ret
    exact ⟨rfl, HB9.out⟩
  go_wp2_with fail
  rw [← HW1.out]
  clear HW1
  refine (HWA.out _).mono ?_
  rintro e w2 ⟨v2, rfl, ho2, hb2⟩
  have HB2 : Hid (Below w.heap.size w w2) := HB1.out.trans (hb2.mono HB1.out.size)
  have HA2 : Hid _ := (hb2.block _ (Array.getElem?_eq_some_iff.1 HA1.out).1).trans HA1.out
  have HV2 : Hid (Reads w2 v2 U) := ho2.reads
  obtain ⟨a2, c2, rfl, -⟩ := ho2.form
  clear hb2 ho2 HB1 HA1
  have z0 := c_rw HA2.out 0 (by simp)
  have z1 := c_rw HA2.out 1 (by simp)
  have z2 := c_rw HA2.out 2 (by simp)
  have z3 := c_rw HA2.out 3 (by simp)
  have z4 := c_rw HA2.out 4 (by simp)
  have z5 := c_rw HA2.out 5 (by simp)
  simp only [List.getElem_toArray, List.getElem_cons_succ, List.getElem_cons_zero] at z0 z1 z2 z3 z4 z5
  go_wp2_with fail
  refine (HWR.out _).mono ?_
  rintro e w3 ⟨v3, rfl, ho3, hb3⟩
  have HB3 : Hid (Below w.heap.size w w3) := HB2.out.trans (hb3.mono HB2.out.size)
  have HV3 : Hid (Reads w3 (.slice a2 U.length c2) U) := HV2.out.below hb3
  have HY3 : Hid (Reads w3 v3 U) := ho3.reads
  obtain ⟨a3, c3, rfl, -⟩ := ho3.form
  clear hb3 ho3 HB2 HA2 HV2 z0 z1 z2 z3 z4 z5
  go_wp2_with fail
  refine (HRB.out _ (HB.out.below HB3.out)).mono ?_
  rintro e w4 ⟨rfl, hb4⟩
  obtain ⟨w5, HW5⟩ := hid_ex (w4.alloc (.cells #[.int .u64 X.c, .bool X.o, .int .i64 (hi X.s), .int .u64 (lo X.s), .int .i64 X.mn, .int .i64 X.mx] 26))
  have hc5 : Below w3.heap.size w3 w5 := by rw [HW5.out]; exact hb4.alloc hb4.size _
  have HB5 : Hid (Below w.heap.size w w5) := HB3.out.trans (hc5.mono HB3.out.size)
  have HP5 : Hid (w5.heap[w4.heap.size]? = some (.cells #[.int .u64 X.c, .bool X.o, .int .i64 (hi X.s), .int .u64 (lo X.s), .int .i64 X.mn, .int .i64 X.mx] 26)) := by rw [HW5.out]; exact World.alloc_heap_new _ _
  have HV5 : Hid (Reads w5 (.slice a2 U.length c2) U) := HV3.out.below hc5
  have HY5 : Hid (Reads w5 (.slice a3 U.length c3) U) := HY3.out.below hc5
  clear hb4 hc5 HB3 HV3 HY3
  go_wp2_with fail
  rw [← HW5.out]
  clear HW5
  refine (HRF.out _ (HB.out.below HB5.out)).mono ?_
  rintro e w6 ⟨rfl, hb6⟩
  obtain ⟨w7, HW7⟩ := hid_ex (w6.alloc (.cells #[.int .u64 X.c, .bool X.o, .int .i64 (hi X.s), .int .u64 (lo X.s), .int .i64 X.mn, .int .i64 X.mx] 26))
  have hc7 : Below w5.heap.size w5 w7 := by rw [HW7.out]; exact hb6.alloc hb6.size _
  have HB7 : Hid (Below w.heap.size w w7) := HB5.out.trans (hc7.mono HB5.out.size)
  have HP7 : Hid (w7.heap[w4.heap.size]? = some (.cells #[.int .u64 X.c, .bool X.o, .int .i64 (hi X.s), .int .u64 (lo X.s), .int .i64 X.mn, .int .i64 X.mx] 26)) := (hc7.block _ (Array.getElem?_eq_some_iff.1 HP5.out).1).trans HP5.out
  have HQ7 : Hid (w7.heap[w6.heap.size]? = some (.cells #[.int .u64 X.c, .bool X.o, .int .i64 (hi X.s), .int .u64 (lo X.s), .int .i64 X.mn, .int .i64 X.mx] 26)) := by rw [HW7.out]; exact World.alloc_heap_new _ _
  have HV7 : Hid (Reads w7 (.slice a2 U.length c2) U) := HV5.out.below hc7
  have HY7 : Hid (Reads w7 (.slice a3 U.length c3) U) := HY5.out.below hc7
  clear hb6 hc7 HB5 HV5 HY5 HP5
  go_wp2_with fail
  rw [← HW7.out]
  clear HW7
  refine (alive2_any _).mono ?_
  rintro e w8 ⟨rfl, hb8⟩
  have HB8 : Hid (Below w.heap.size w w8) := HB7.out.trans (hb8.mono HB7.out.size)
  have HP8 : Hid _ := (hb8.block _ (Array.getElem?_eq_some_iff.1 HP7.out).1).trans HP7.out
  have HQ8 : Hid _ := (hb8.block _ (Array.getElem?_eq_some_iff.1 HQ7.out).1).trans HQ7.out
  have q1 := reads_text (HV7.out.below hb8)
  have q2 := reads_text (HY7.out.below hb8)
  have hbe : (U == U) = true := by simp
  have z0 := c_rw HP8.out 0 (by simp)
  have z1 := c_rw HP8.out 1 (by simp)
  have z2 := c_rw HP8.out 2 (by simp)
  have z3 := c_rw HP8.out 3 (by simp)
  have z4 := c_rw HP8.out 4 (by simp)
  have z5 := c_rw HP8.out 5 (by simp)
  have y0 := c_rw HQ8.out 0 (by simp)
  have y1 := c_rw HQ8.out 1 (by simp)
  have y2 := c_rw HQ8.out 2 (by simp)
  have y3 := c_rw HQ8.out 3 (by simp)
  have y4 := c_rw HQ8.out 4 (by simp)
  have y5 := c_rw HQ8.out 5 (by simp)
  simp only [List.getElem_toArray, List.getElem_cons_succ, List.getElem_cons_zero] at z0 z1 z2 z3 z4 z5 y0 y1 y2 y3 y4 y5
  clear hb8 HB7 HP7 HQ7 HV7 HY7
  go_wp2_with fail
  go_ret
  exact ⟨rfl, HB8.out⟩
end Go.Proofs.Ytaafklpgfikjnaa
