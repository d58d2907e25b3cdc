/- The walk of AggBack. -/
import Derived.Test.YtjigfcbdejiboaaAB3
import Derived.Test.YtjigfcbdejiboaaA4
namespace Go.Proofs.Ytjigfcbdejiboaa
open Go.RowKit

theorem rd_wr {a : Ag} (h : AgOk a) (hr : rightB a = true) : rdA (aggU a) = a ∧ rdR (aggU a) = 0 := by
  have hg : rdG (aggU a) := by
    refine ⟨?_, by rw [dec_aggU a h]; exact hr⟩
    unfold aggU
    simp only [List.getD_cons_zero]
    split <;> decide
  refine ⟨?_, ?_⟩
  · unfold rdA; rw [if_pos ⟨aggU_len a, hg⟩, dec_aggU a h]
  · unfold rdR; rw [aggU_len, if_neg (by omega), if_neg (by omega), if_pos hg]
theorem rdA_ok (l : List UInt8) : AgOk (rdA l) := by
  unfold rdA
  split
  · rename_i h; exact decU_ok l h.1
  · exact aZ_ok
theorem wr_rd {l : List UInt8} (h : rdR l = 0) : wrU (rdA l) = l ∧ wrE (rdA l) = 0 := by
  have h1 : l.length = 41 ∧ rdG l := by
    unfold rdR at h
    split at h
    · omega
    · split at h
      · omega
      · split at h
        · rename_i hg; exact ⟨by omega, hg⟩
        · omega
  have e : rdA l = decU l := by unfold rdA; rw [if_pos h1]
  rw [e]
  unfold wrU wrE
  rw [if_pos h1.2.2, if_pos h1.2.2]
  exact ⟨aggU_dec l h1.1 h1.2.1, rfl⟩
set_option maxRecDepth 100000 in
set_option maxHeartbeats 4000000 in
theorem back_walk (a : Ag) (vb : Value) (b : List UInt8) (w : World) (hA : AgOk a) (hb : Reads w vb b) :
    Calls Try.prog 4 #[.agg #[.int .u64 a.c, .bool a.o, .int .i64 (hi a.s), .int .u64 (lo a.s), .int .i64 a.mn, .int .i64 a.mx], vb] w fun e w' => e = .returned (.bool true) ∧ Below w.heap.size w w' := by
  have HB : Hid (Reads w vb b) := hb
  obtain ⟨ab, cb, rfl, hm⟩ := hb.form
  unfold maxLen at hm
  clear hb
  have HWA : Hid (∀ w, Calls Try.prog 8 #[.agg #[.int .u64 a.c, .bool a.o, .int .i64 (hi a.s), .int .u64 (lo a.s), .int .i64 a.mn, .int .i64 a.mx]] w fun e w' => ∃ v, e = .returned (.tuple #[v, .int .i64 (wrE a)]) ∧ Own w' w.heap.size v (wrU a) ∧ Below w.heap.size w w') := fun w => aggWrite_any a hA w
  have HRA : Hid (∀ w, Calls Try.prog 10 #[.agg #[.int .u64 a.c, .bool a.o, .int .i64 (hi a.s), .int .u64 (lo a.s), .int .i64 a.mn, .int .i64 a.mx]] w fun e w' => e = .returned (.bool (rightB a)) ∧ Below w.heap.size w w') := fun w => right_any a w
  have HOKA : Hid (AgOk a) := hA
  obtain ⟨X, HX⟩ := hid_ex (rdA b)
  have HRB : Hid (∀ w, Reads w (.slice ab b.length cb) b → Calls Try.prog 9 #[.slice ab b.length cb] w fun e w' => e = .returned (.tuple #[.agg #[.int .u64 X.c, .bool X.o, .int .i64 (hi X.s), .int .u64 (lo X.s), .int .i64 X.mn, .int .i64 X.mx], .int .i64 (rdR b)]) ∧ Below w.heap.size w w') := by
    intro w h; rw [HX.out]; exact aggRead_any _ b w h
  obtain ⟨U, HU⟩ := hid_ex (wrU X)
  obtain ⟨E, HE⟩ := hid_ex (wrE X)
  have HWX : Hid (∀ w, Calls Try.prog 8 #[.agg #[.int .u64 X.c, .bool X.o, .int .i64 (hi X.s), .int .u64 (lo X.s), .int .i64 X.mn, .int .i64 X.mx]] w fun e w' => ∃ v, e = .returned (.tuple #[v, .int .i64 E]) ∧ Own w' w.heap.size v U ∧ Below w.heap.size w w') := by
    intro w; rw [HU.out, HE.out]; exact aggWrite_any X (by rw [HX.out]; exact rdA_ok b) w
  have HOK : Hid (rdR b = 0 → U = b ∧ E = 0) := by
    intro h; rw [HU.out, HE.out, HX.out]; exact wr_rd h
  clear hA HX HU HE
  obtain ⟨w1, HW1⟩ := hid_ex (w.alloc (.cells #[.int .u64 a.c, .bool a.o, .int .i64 (hi a.s), .int .u64 (lo a.s), .int .i64 a.mn, .int .i64 a.mx] 28))
  have HB1 : Hid (Below w.heap.size w w1) := by rw [HW1.out]; exact (Below.refl _ _).alloc (Nat.le_refl _) _
  have HA1 : Hid (w1.heap[w.heap.size]? = some (.cells #[.int .u64 a.c, .bool a.o, .int .i64 (hi a.s), .int .u64 (lo a.s), .int .i64 a.mn, .int .i64 a.mx] 28)) := by rw [HW1.out]; exact World.alloc_heap_new _ _
  go_enter Try.func4, Try.ntmps4
  by_cases g1 : (200 : Int) < (b.length : Int)
  · go_wp2_with fail
    rw [← HW1.out]
    refine (alive2_any _).mono ?_
    rintro e w9 ⟨rfl, hb9⟩
    have HB9 : Hid (Below w.heap.size w w9) := HB1.out.trans (hb9.mono HB1.out.size)
    clear hb9
    go_wp2_with fail
    go_ret
    exact ⟨rfl, HB9.out⟩
  go_wp2_with fail
  rw [← HW1.out]
  clear HW1
  refine (HWA.out _).mono ?_
  rintro e w2 ⟨v2, rfl, ho2, hb2⟩
  have HB2 : Hid (Below w.heap.size w w2) := HB1.out.trans (hb2.mono HB1.out.size)
  have HA2 : Hid _ := (hb2.block _ (Array.getElem?_eq_some_iff.1 HA1.out).1).trans HA1.out
  clear hb2 HB1 HA1
  cases hra : rightB a with
  | true =>
    have e1 : wrE a = 0 := by unfold wrE; rw [if_pos hra]
    have e2 : wrU a = aggU a := by unfold wrU; rw [if_pos hra]
    have hrw := rd_wr HOKA.out hra
    rw [e1]
    rw [e2] at ho2
    rw [hra] at HRA
    have HR2 : Hid (Reads w2 v2 (aggU a)) := ho2.reads
    obtain ⟨a2, c2, rfl, -⟩ := ho2.form
    have HRW : Hid _ := hrw
    obtain ⟨Q, HQ⟩ := hid_ex (aggU a)
    have hQ : Q.length = 41 := by rw [HQ.out]; exact aggU_len a
    rw [← HQ.out] at HR2
    rw [← HQ.out]
    have HRQ : Hid (∀ w, Reads w (.slice a2 41 c2) Q → Calls Try.prog 9 #[.slice a2 41 c2] w fun e w' => e = .returned (.tuple #[.agg #[.int .u64 a.c, .bool a.o, .int .i64 (hi a.s), .int .u64 (lo a.s), .int .i64 a.mn, .int .i64 a.mx], .int .i64 0]) ∧ Below w.heap.size w w') := by
      intro w h
      have := aggRead_any _ Q w h
      rw [HQ.out, HRW.out.1, HRW.out.2] at this
      exact this
    rw [hQ] at HR2
    rw [hQ]
    clear ho2 e1 e2 hra hrw hQ HRW
    go_wp2_with fail
    refine (HRQ.out _ HR2.out).mono ?_
    rintro e w3 ⟨rfl, hb3⟩
    obtain ⟨w4, HW4⟩ := hid_ex (w3.alloc (.cells #[.int .u64 a.c, .bool a.o, .int .i64 (hi a.s), .int .u64 (lo a.s), .int .i64 a.mn, .int .i64 a.mx] 28))
    have hc4 : Below w2.heap.size w2 w4 := by rw [HW4.out]; exact hb3.alloc hb3.size _
    have HB4 : Hid (Below w.heap.size w w4) := HB2.out.trans (hc4.mono HB2.out.size)
    have HA4 : Hid _ := (hc4.block _ (Array.getElem?_eq_some_iff.1 HA2.out).1).trans HA2.out
    have z0 := c_rw HA4.out 0 (by simp)
    have z1 := c_rw HA4.out 1 (by simp)
    have z2 := c_rw HA4.out 2 (by simp)
    have z3 := c_rw HA4.out 3 (by simp)
    have z4 := c_rw HA4.out 4 (by simp)
    have z5 := c_rw HA4.out 5 (by simp)
    simp only [List.getElem_toArray, List.getElem_cons_succ, List.getElem_cons_zero] at z0 z1 z2 z3 z4 z5
    rw [HW4.out] at z0 z1 z2 z3 z4 z5
    clear hb3 hc4 HB2 HA2 HR2 HRQ
    go_wp2_with fail
    rw [← HW4.out]
    clear HW4 z0 z1 z2 z3 z4 z5
    refine (HRB.out _ (HB.out.below HB4.out)).mono ?_
    rintro e w6 ⟨rfl, hb6⟩
    obtain ⟨w7, HW7⟩ := hid_ex (w6.alloc (.cells #[.int .u64 X.c, .bool X.o, .int .i64 (hi X.s), .int .u64 (lo X.s), .int .i64 X.mn, .int .i64 X.mx] 28))
    have hc7 : Below w4.heap.size w4 w7 := by rw [HW7.out]; exact hb6.alloc hb6.size _
    have HB7 : Hid (Below w.heap.size w w7) := HB4.out.trans (hc7.mono HB4.out.size)
    have HA7 : Hid _ := (hc7.block _ (Array.getElem?_eq_some_iff.1 HA4.out).1).trans HA4.out
    clear hb6 hc7 HB4 HA4
    go_wp2_with fail
    rw [← HW7.out]
    clear HW7
    refine (HWX.out _).mono ?_
    rintro e w8 ⟨y8, rfl, ho8, hb8⟩
    have HB8 : Hid (Below w.heap.size w w8) := HB7.out.trans (hb8.mono HB7.out.size)
    have HA8 : Hid _ := (hb8.block _ (Array.getElem?_eq_some_iff.1 HA7.out).1).trans HA7.out
    have HY8 : Hid (Reads w8 y8 U) := ho8.reads
    obtain ⟨a8, c8, rfl, -⟩ := ho8.form
    clear hb8 ho8 HB7 HA7
    go_wp2_with fail
    refine (alive2_any _).mono ?_
    rintro e w9 ⟨rfl, hb9⟩
    have HB9 : Hid (Below w.heap.size w w9) := HB8.out.trans (hb9.mono HB8.out.size)
    have HA9 : Hid _ := (hb9.block _ (Array.getElem?_eq_some_iff.1 HA8.out).1).trans HA8.out
    have HY9 : Hid (Reads w9 (.slice a8 U.length c8) U) := HY8.out.below hb9
    clear hb9 HB8 HA8 HY8
    have z0 := c_rw HA9.out 0 (by simp)
    have z1 := c_rw HA9.out 1 (by simp)
    have z2 := c_rw HA9.out 2 (by simp)
    have z3 := c_rw HA9.out 3 (by simp)
    have z4 := c_rw HA9.out 4 (by simp)
    have z5 := c_rw HA9.out 5 (by simp)
    simp only [List.getElem_toArray, List.getElem_cons_succ, List.getElem_cons_zero] at z0 z1 z2 z3 z4 z5
    go_wp2_with fail
    refine (HRA.out _).mono ?_
    rintro e w10 ⟨rfl, hb10⟩
    have HB10 : Hid (Below w.heap.size w w10) := HB9.out.trans (hb10.mono HB9.out.size)
    have q1 := reads_text (HY9.out.below hb10)
    have q2 := reads_text (HB.out.below HB10.out)
    clear hb10 z0 z1 z2 z3 z4 z5
    by_cases hr : rdR b = 0
    · obtain ⟨eU, eE⟩ := HOK.out hr
      rw [hr]
      have eU := eU.symm
      subst eU eE
      have hbe : (b == b) = true := by simp
      go_wp2_with fail
      go_ret
      exact ⟨rfl, HB10.out⟩
    · have hbn : (rdR b != 0) = true := by simp [hr]
      have hbe : (rdR b == 0) = false := by simp [hr]
      obtain ⟨rb, HRBB⟩ := hid_ex (rdR b)
      rw [← HRBB.out] at hbn hbe hr
      rw [← HRBB.out]
      go_wp2_with fail
      go_ret
      exact ⟨rfl, HB10.out⟩
  | false =>
    have e1 : wrE a = 3 := by unfold wrE; rw [hra]; rfl
    have e2 : wrU a = [] := by unfold wrU; rw [hra]; rfl
    rw [e1]
    rw [e2] at ho2
    rw [hra] at HRA
    obtain ⟨a2, c2, rfl, -⟩ := ho2.form
    clear ho2 e1 e2 hra
    go_wp2_with fail
    refine (HRB.out _ (HB.out.below HB2.out)).mono ?_
    rintro e w6 ⟨rfl, hb6⟩
    obtain ⟨w7, HW7⟩ := hid_ex (w6.alloc (.cells #[.int .u64 X.c, .bool X.o, .int .i64 (hi X.s), .int .u64 (lo X.s), .int .i64 X.mn, .int .i64 X.mx] 28))
    have hc7 : Below w2.heap.size w2 w7 := by rw [HW7.out]; exact hb6.alloc hb6.size _
    have HB7 : Hid (Below w.heap.size w w7) := HB2.out.trans (hc7.mono HB2.out.size)
    have HA7 : Hid _ := (hc7.block _ (Array.getElem?_eq_some_iff.1 HA2.out).1).trans HA2.out
    clear hb6 hc7 HB2 HA2
    go_wp2_with fail
    rw [← HW7.out]
    clear HW7
    refine (HWX.out _).mono ?_
    rintro e w8 ⟨y8, rfl, ho8, hb8⟩
    have HB8 : Hid (Below w.heap.size w w8) := HB7.out.trans (hb8.mono HB7.out.size)
    have HA8 : Hid _ := (hb8.block _ (Array.getElem?_eq_some_iff.1 HA7.out).1).trans HA7.out
    have HY8 : Hid (Reads w8 y8 U) := ho8.reads
    obtain ⟨a8, c8, rfl, -⟩ := ho8.form
    clear hb8 ho8 HB7 HA7
    go_wp2_with fail
    refine (alive2_any _).mono ?_
    rintro e w9 ⟨rfl, hb9⟩
    have HB9 : Hid (Below w.heap.size w w9) := HB8.out.trans (hb9.mono HB8.out.size)
    have HA9 : Hid _ := (hb9.block _ (Array.getElem?_eq_some_iff.1 HA8.out).1).trans HA8.out
    have HY9 : Hid (Reads w9 (.slice a8 U.length c8) U) := HY8.out.below hb9
    clear hb9 HB8 HA8 HY8
    have z0 := c_rw HA9.out 0 (by simp)
    have z1 := c_rw HA9.out 1 (by simp)
    have z2 := c_rw HA9.out 2 (by simp)
    have z3 := c_rw HA9.out 3 (by simp)
    have z4 := c_rw HA9.out 4 (by simp)
    have z5 := c_rw HA9.out 5 (by simp)
    simp only [List.getElem_toArray, List.getElem_cons_succ, List.getElem_cons_zero] at z0 z1 z2 z3 z4 z5
    go_wp2_with fail
    refine (HRA.out _).mono ?_
    rintro e w10 ⟨rfl, hb10⟩
    have HB10 : Hid (Below w.heap.size w w10) := HB9.out.trans (hb10.mono HB9.out.size)
    have q1 := reads_text (HY9.out.below hb10)
    have q2 := reads_text (HB.out.below HB10.out)
    clear hb10 z0 z1 z2 z3 z4 z5
    by_cases hr : rdR b = 0
    · obtain ⟨eU, eE⟩ := HOK.out hr
      rw [hr]
      have eU := eU.symm
      subst eU eE
      have hbe : (b == b) = true := by simp
      go_wp2_with fail
      go_ret
      exact ⟨rfl, HB10.out⟩
    · have hbn : (rdR b != 0) = true := by simp [hr]
      have hbe : (rdR b == 0) = false := by simp [hr]
      obtain ⟨rb, HRBB⟩ := hid_ex (rdR b)
      rw [← HRBB.out] at hbn hbe hr
      rw [← HRBB.out]
      go_wp2_with fail
      go_ret
      exact ⟨rfl, HB10.out⟩
end Go.Proofs.Ytjigfcbdejiboaa
