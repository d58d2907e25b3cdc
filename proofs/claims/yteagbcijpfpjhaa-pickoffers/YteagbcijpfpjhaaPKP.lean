/- What is offered: against the reference. -/
import Derived.Test.YteagbcijpfpjhaaPO5
import Derived.Test.YteagbcijpfpjhaaPO6
import Derived.Test.YteagbcijpfpjhaaPR1
import Derived.Test.YteagbcijpfpjhaaPR5
namespace Go.Proofs.Yteagbcijpfpjhaa
open Go.RowKit Go.Shelf

/-- What either Offer tells, in one form. -/
theorem OfPost.uni {L : List Rn} : ∃ (fs : List Int) (lv er : Int) (s : Bool), ∀ (w : World) (e : Ending) (w' : World), OfPost L w e w' → ∃ v', e = .returned (.tuple #[.agg #[v', .int .i64 lv], .bool s, .int .i64 er]) ∧ Reads w' v' fs ∧ Below w.heap.size w w' := by
  rcases Bool.eq_false_or_eq_true (okB L) with ho | ho
  · refine ⟨(offT L).fs, (offT L).lv, 0, (offT L).s, ?_⟩
    rintro w e w' ⟨h1, h2, _⟩
    obtain ⟨v', h3, h4⟩ := h2 ho
    exact ⟨v', h3, h4.reads, h1⟩
  · refine ⟨[], 0, 1, false, ?_⟩
    rintro w e w' ⟨h1, _, h2⟩
    exact ⟨_, h2 ho, .inl ⟨rfl, none, 0, rfl, fun _ => rfl⟩, h1⟩
set_option maxRecDepth 100000 in
set_option maxHeartbeats 8000000 in
theorem offers_walk (v : Value) (L : List Rn) (level : Int) (w : World) (hR : NReads w v L) : Calls Try.prog 3 #[v, .int .i64 level] w fun e w' => e = .returned (.bool true) ∧ Below w.heap.size w w' := by
  have HR : Hid (NReads w v L) := hR
  obtain ⟨a, cap, rfl, hl1, hl2⟩ := hR.form
  clear hR
  unfold maxLen at hl2
  by_cases hL : L.length ≤ 100
  rotate_left
  · go_enter Try.func3, Try.ntmps3
    go_wp2_with fail
    refine (alive_any _).mono ?_
    rintro e w2 ⟨rfl, hb2⟩
    have HB2 : Hid (Below w.heap.size w w2) := hb2
    clear hb2
    go_wp2_with fail
    go_ret
    exact ⟨rfl, HB2.out⟩
  obtain ⟨fs, lv, er, s, hU⟩ := OfPost.uni (L := L)
  have HU : Hid (∀ (w : World) (e : Ending) (w' : World), OfPost L w e w' → ∃ v', e = .returned (.tuple #[.agg #[v', .int .i64 lv], .bool s, .int .i64 er]) ∧ Reads w' v' fs ∧ Below w.heap.size w w') := hU
  clear hU
  go_enter Try.func3, Try.ntmps3
  go_wp2_with fail
  refine (as_any _ L _ HR.out (by omega)).mono ?_
  rintro e w1 ⟨vw, rfl, hO1, hb1⟩
  have HB1 : Hid (Below w.heap.size w w1) := hb1
  have HW1 : Hid (NReads w1 vw L) := hO1.reads
  clear hO1 hb1
  go_wp2_with fail
  refine (offer_any _ L _ (HR.out.below HB1.out)).mono ?_
  intro e w2 hp2
  obtain ⟨va, rfl, hra, hb2⟩ := HU.out _ _ _ hp2
  have HB2 : Hid (Below w.heap.size w w2) := HB1.out.trans (hb2.mono HB1.out.size)
  have HW2 : Hid (NReads w2 vw L) := HW1.out.below hb2
  have HRa : Hid (Reads w2 va fs) := hra
  obtain ⟨fa, fc, rfl, _⟩ := hra.form
  clear hp2 hra hb2
  go_wp2_with (refine stop_store 28 _ _ rfl ?_)
  refine Stop.of ?_
  refine wpList_storeN rfl _ _ _ rfl w2.heap.size 0 [.slice fa fs.length fc, .int .i64 lv] rfl rfl _ _ (heap_alloc_new _ _) (by simp) (by kernel_rfl) (by kernel_rfl) ?_
  intro W hW
  obtain ⟨hbW, hxW, hlW⟩ := stW_new hW (by simp)
  have HBW : Hid (Below w.heap.size w W) := HB2.out.trans (hbW.mono HB2.out.size)
  have HWW : Hid (NReads W vw L) := HW2.out.below hbW
  have HRaW : Hid (Reads W (.slice fa fs.length fc) fs) := HRa.out.below hbW
  have HXa : Hid (W.heap[w2.heap.size]? = some (.cells #[.slice fa fs.length fc, .int .i64 lv] 28)) := hxW
  obtain ⟨A, HAA⟩ := hid_ex w2.heap.size
  rw [← HAA.out] at HXa hlW ⊢
  clear hW hbW hxW HAA HRa
  go_wp2_with fail
  refine (refOffer_any _ L _ HWW.out).mono ?_
  intro e w3 hp3
  obtain ⟨vc, rfl, hrc, hb3⟩ := HU.out _ _ _ hp3
  have HB3 : Hid (Below w.heap.size w w3) := HBW.out.trans (hb3.mono HBW.out.size)
  have HW3 : Hid (NReads w3 vw L) := HWW.out.below hb3
  have HRa3 : Hid (Reads w3 (.slice fa fs.length fc) fs) := HRaW.out.below hb3
  have HX3 : Hid (w3.heap[A]? = some (.cells #[.slice fa fs.length fc, .int .i64 lv] 28)) := (hb3.block _ hlW).trans HXa.out
  have HRc : Hid (Reads w3 vc fs) := hrc
  obtain ⟨ga, gc, rfl, _⟩ := hrc.form
  clear hp3 hrc hb3
  go_wp2_with (refine stop_store 32 _ _ rfl ?_)
  refine Stop.of ?_
  refine wpList_storeN rfl _ _ _ rfl w3.heap.size 0 [.slice ga fs.length gc, .int .i64 lv] rfl rfl _ _ (heap_alloc_new _ _) (by simp) (by kernel_rfl) (by kernel_rfl) ?_
  intro V hV
  obtain ⟨hbV, hxV, hlV⟩ := stW_new hV (by simp)
  have HBV : Hid (Below w.heap.size w V) := HB3.out.trans (hbV.mono HB3.out.size)
  have HWV : Hid (NReads V vw L) := HW3.out.below hbV
  have HRaV : Hid (Reads V (.slice fa fs.length fc) fs) := HRa3.out.below hbV
  have HRcV : Hid (Reads V (.slice ga fs.length gc) fs) := HRc.out.below hbV
  have HXaV : Hid (V.heap[A]? = some (.cells #[.slice fa fs.length fc, .int .i64 lv] 28)) := (hbV.block _ (Array.getElem?_eq_some_iff.1 HX3.out).1).trans HX3.out
  have HXcV : Hid (V.heap[w3.heap.size]? = some (.cells #[.slice ga fs.length gc, .int .i64 lv] 32)) := hxV
  obtain ⟨B, HBB⟩ := hid_ex w3.heap.size
  rw [← HBB.out] at HXcV hlV ⊢
  have hAV : A < V.heap.size := (Array.getElem?_eq_some_iff.1 HXaV.out).1
  clear hV hbV hxV HBB HRa3 HRc HW3 HX3
  go_wp2_with fail
  refine (alive_any _).mono ?_
  rintro e w4 ⟨rfl, hb4⟩
  have HB4 : Hid (Below V.heap.size V w4) := hb4
  clear hb4
  go_wp2_with fail
  obtain ⟨p, Hp⟩ := hid_ex (okB L)
  obtain ⟨q, Hq⟩ := hid_ex (FulB L level)
  refine (right_any _ L _ (HR.out.below (HBV.out.trans (HB4.out.mono HBV.out.size)))).mono ?_
  rw [← Hp.out]
  rintro e w5 ⟨rfl, hb5⟩
  have HB5 : Hid (Below V.heap.size V w5) := HB4.out.trans (hb5.mono HB4.out.size)
  clear hb5
  go_wp2_with fail
  refine (refRight_any _ L _ (HWV.out.below HB5.out)).mono ?_
  rw [← Hp.out]
  rintro e w6 ⟨rfl, hb6⟩
  have HB6 : Hid (Below V.heap.size V w6) := HB5.out.trans (hb6.mono HB5.out.size)
  clear hb6
  go_wp2_with fail
  refine (Full_any _ L level _ (HR.out.below (HBV.out.trans (HB6.out.mono HBV.out.size)))).mono ?_
  rw [← Hq.out]
  rintro e w7 ⟨rfl, hb7⟩
  have HB7 : Hid (Below V.heap.size V w7) := HB6.out.trans (hb7.mono HB6.out.size)
  clear hb7
  go_wp2_with fail
  refine (refFull_any _ L level _ (HWV.out.below HB7.out)).mono ?_
  rw [← Hq.out]
  rintro e w8 ⟨rfl, hb8⟩
  have HB8 : Hid (Below V.heap.size V w8) := HB7.out.trans (hb8.mono HB7.out.size)
  have hxa := (HB8.out.block _ hAV).trans HXaV.out
  have hxc := (HB8.out.block _ hlV).trans HXcV.out
  have a0 := (cell_row hxa 0 (by simp)).1
  have a1 := (cell_row hxa 1 (by simp)).1
  have c0 := (cell_row hxc 0 (by simp)).1
  have c1 := (cell_row hxc 1 (by simp)).1
  simp only [List.getElem_toArray, List.getElem_cons_zero, List.getElem_cons_succ] at a0 a1 c0 c1
  clear hb8 hxa hxc
  go_wp2_with fail
  refine (sameTask_true _ _ fs lv _ (HRaV.out.below HB8.out) (HRcV.out.below HB8.out)).mono ?_
  rintro e w9 ⟨rfl, hb9⟩
  have HB9 : Hid (Below V.heap.size V w9) := HB8.out.trans (hb9.mono HB8.out.size)
  clear hb9 a0 a1 c0 c1
  go_wp2_with fail
  refine (as_any _ L _ (HR.out.below (HBV.out.trans (HB9.out.mono HBV.out.size))) (by omega)).mono ?_
  rintro e w10 ⟨vz, rfl, hO10, hb10⟩
  have HB10 : Hid (Below V.heap.size V w10) := HB9.out.trans (hb10.mono HB9.out.size)
  have HZ : Hid (NReads w10 vz L) := hO10.reads
  clear hO10 hb10
  go_wp2_with fail
  refine (same_true _ _ L _ HZ.out (HWV.out.below HB10.out)).mono ?_
  rintro e w11 ⟨rfl, hb11⟩
  have HB11 : Hid (Below w.heap.size w w11) := HBV.out.trans ((HB10.out.trans (hb11.mono HB10.out.size)).mono HBV.out.size)
  clear hb11
  go_wp2_with fail
  go_ret
  exact ⟨rfl, HB11.out⟩
end Go.Proofs.Yteagbcijpfpjhaa
