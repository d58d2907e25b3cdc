/- AR4, joined. -/
import Derived.Test.YtoenijflijfogaaGreatRA43
/- Layer 17: AskRanges' walk. -/
namespace Go.Proofs.YtoenijflijfogaaGreat
open Go.RowKit

set_option maxRecDepth 100000 in
set_option maxHeartbeats 8000000 in
theorem ranges17_walk (R : Rl) (wm : Int) (v : Value) (L : List En) (q : Qy) (m : Int) (w : World) (hL : Lies R w.heap.size w) (hE : EReads w v L) (hQ : QLies q w) (hm : In64 m) :
    Calls Tryz.prog 5 #[.agg #[.slice R.a R.len R.cap, .int .i64 R.kp], .int .i64 wm, v, q.val, .int .i64 m] w fun e w' => e = .returned (.bool true) ∧ Below w.heap.size w w' := by
  obtain ⟨a, cap, rfl, hm1, hm2⟩ := hE.form
  obtain ⟨qv, qD, qt, qf, qu, qm⟩ := q
  have hqr := hQ.r
  obtain ⟨da, dc, hdv, hdl⟩ := hqr.form
  simp only at hdv
  subst hdv
  obtain ⟨hf1, hf2⟩ := hQ.f
  obtain ⟨hu1, hu2⟩ := hQ.u
  obtain ⟨hmm1, hmm2⟩ := hm
  simp only at hf1 hf2 hu1 hu2
  have HL : Hid (Lies R w.heap.size w) := hL
  have HE : Hid (EReads w (.slice a L.length cap) L) := hE
  have HD : Hid (SReads w (.slice da qD.length dc) qD) := hqr
  obtain ⟨dn, Hdn⟩ := hid_ex qD.length
  rw [← Hdn.out] at HD hdl ⊢
  obtain ⟨w1, HW1⟩ := hid_ex ((w.alloc (.cells #[.slice R.a R.len R.cap, .int .i64 R.kp] 24)).alloc (.cells #[.slice da dn dc, .int .i64 qt, .int .i64 qf, .int .i64 qu, .int .i64 qm] 28))
  have HB1 : Hid (Below w.heap.size w w1) := by rw [HW1.out]; exact ((Below.refl _ _).alloc (Nat.le_refl _) _).alloc (by simp) _
  have HX1 : Hid (w1.heap[w.heap.size]? = some (.cells #[.slice R.a R.len R.cap, .int .i64 R.kp] 24)) := by
    rw [HW1.out]; unfold Hid; exact (Below.heap_alloc _ _ _ (by simp)).trans (heap_alloc_new _ _)
  have HY1 : Hid (w1.heap[w.heap.size + 1]? = some (.cells #[.slice da dn dc, .int .i64 qt, .int .i64 qf, .int .i64 qu, .int .i64 qm] 28)) := by
    rw [HW1.out]; unfold Hid
    have := heap_alloc_new (w.alloc (.cells #[.slice R.a R.len R.cap, .int .i64 R.kp] 24)) (.cells #[.slice da dn dc, .int .i64 qt, .int .i64 qf, .int .i64 qu, .int .i64 qm] 28)
    rw [World.size_alloc] at this; exact this
  have HGR : Hid (Calls Tryz.prog 7 #[.slice a L.length cap] w1 (Gt15 L w1)) := great15_any _ _ w1 (HE.out.below HB1.out)
  have HAL : Hid (∀ W, Below w.heap.size w W → Calls Tryz.prog 9 #[] W fun e w' => e = .returned (.bool true) ∧ Below w.heap.size w w') := fun W hW => (alive17_any W).mono fun e w' ⟨h1, h2⟩ => ⟨h1, hW.trans (h2.mono hW.size)⟩
  have HSC : Hid (∀ f t W, okRow15 L → Below w.heap.size w W → Calls Tryz.prog 14 #[.agg #[.slice R.a R.len R.cap, .int .i64 R.kp], .int .i64 wm, .slice a L.length cap, .slice da dn dc, .int .i64 f, .int .i64 t] W (RwPost (scQ R wm L qD f t) (scE R wm L qD f t) W)) := fun f t W hok hW => by
    rw [Hdn.out]
    exact scan17_any R wm _ L _ qD f t W (HL.out.at hW) (HE.out.below hW) (by have := hok.1; omega) (fun x hx => by have := hok.2 x hx; omega) (by rw [← Hdn.out]; exact HD.out.below hW)
  have HLG : Hid (∀ W, Below w.heap.size w W → Calls Tryz.prog 8 #[.agg #[.slice da dn dc, .int .i64 qt, .int .i64 qf, .int .i64 qu, .int .i64 qm]] W fun e w' => ∃ g : Bool, e = .returned (.bool g) ∧ Below W.heap.size W w') := fun W hW => by
    have h1 := HD.out.below hW
    rw [Hdn.out] at h1 ⊢
    exact long17_any _ qD qt qf qu qm W h1
  obtain ⟨ln, Hln⟩ := hid_ex L.length
  rw [← Hln.out] at HGR HSC hm1 ⊢
  clear hL hE hQ hqr HE HD Hdn Hln HL
  unfold Qy.val
  go_enter Tryz.func5, Tryz.ntmps5
  go_wp2_with fail
  rw [← HW1.out]
  clear HW1
  refine HGR.out.mono ?_
  clear HGR
  rintro e w' ⟨g, rfl, hok, hw'⟩
  subst w'
  have HOK : Hid (g = false → okRow15 L) := hok
  clear hok
  cases g with
  | true =>
    clear HOK HSC HLG
    go_wp2_with fail
    refine (HAL.out _ HB1.out).mono ?_
    rintro e w2 ⟨rfl, hb2⟩
    have HB2 : Hid (Below w.heap.size w w2) := hb2
    clear hb2
    go_wp2_with fail
    go_ret
    exact ⟨rfl, HB2.out⟩
  | false =>
    have HOK2 : Hid (okRow15 L) := HOK.out rfl
    have HLG1 : Hid (Calls Tryz.prog 8 #[.agg #[.slice da dn dc, .int .i64 qt, .int .i64 qf, .int .i64 qu, .int .i64 qm]] w1 fun e w' => ∃ g : Bool, e = .returned (.bool g) ∧ Below w1.heap.size w1 w') := HLG.out _ HB1.out
    have y0 := (cell_row HY1.out 0 (by simp)).1
    have y1 := (cell_row HY1.out 1 (by simp)).1
    have y2 := (cell_row HY1.out 2 (by simp)).1
    have y3 := (cell_row HY1.out 3 (by simp)).1
    have y4 := (cell_row HY1.out 4 (by simp)).1
    simp only [List.getElem_toArray, List.getElem_cons_zero, List.getElem_cons_succ] at y0 y1 y2 y3 y4
    clear HOK
    go_wp2_with fail
    refine HLG1.out.mono ?_
    clear HLG1 y0 y1 y2 y3 y4
    rintro e w2 ⟨g2, rfl, hb2⟩
    have HX2 : Hid (w2.heap[w.heap.size]? = some (.cells #[.slice R.a R.len R.cap, .int .i64 R.kp] 24)) := (hb2.block _ (Array.getElem?_eq_some_iff.1 HX1.out).1).trans HX1.out
    have HY2 : Hid (w2.heap[w.heap.size + 1]? = some (.cells #[.slice da dn dc, .int .i64 qt, .int .i64 qf, .int .i64 qu, .int .i64 qm] 28)) := (hb2.block _ (Array.getElem?_eq_some_iff.1 HY1.out).1).trans HY1.out
    have HB2 : Hid (Below w.heap.size w w2) := HB1.out.trans (hb2.mono HB1.out.size)
    have y2 := (cell_row HY2.out 2 (by simp)).1
    have y3 := (cell_row HY2.out 3 (by simp)).1
    simp only [List.getElem_toArray, List.getElem_cons_zero, List.getElem_cons_succ] at y2 y3
    clear hb2 HX1 HY1 HB1
    cases g2 with
    | true =>
      clear HOK2 HSC HLG HY2 HX2
      go_wp2_with fail
      refine (HAL.out _ HB2.out).mono ?_
      rintro e w3 ⟨rfl, hb3⟩
      have HB3 : Hid (Below w.heap.size w w3) := hb3
      clear hb3
      go_wp2_with fail
      go_ret
      exact ⟨rfl, HB3.out⟩
    | false =>
      by_cases h1 : m < qf
      · clear HOK2 HSC HLG HY2 HX2
        go_wp2_with fail
        refine (HAL.out _ HB2.out).mono ?_
        rintro e w3 ⟨rfl, hb3⟩
        have HB3 : Hid (Below w.heap.size w w3) := hb3
        clear hb3
        go_wp2_with fail
        go_ret
        exact ⟨rfl, HB3.out⟩
      by_cases h2 : qu < m
      · clear HOK2 HSC HLG HY2 HX2
        go_wp2_with fail
        refine (HAL.out _ HB2.out).mono ?_
        rintro e w3 ⟨rfl, hb3⟩
        have HB3 : Hid (Below w.heap.size w w3) := hb3
        clear hb3
        go_wp2_with fail
        go_ret
        exact ⟨rfl, HB3.out⟩
      have HSA : Hid (Calls Tryz.prog 14 #[.agg #[.slice R.a R.len R.cap, .int .i64 R.kp], .int .i64 wm, .slice a ln cap, .slice da dn dc, .int .i64 qf, .int .i64 qu] w2 (RwPost (scQ R wm L qD qf qu) (scE R wm L qD qf qu) w2)) := HSC.out _ _ _ HOK2.out HB2.out
      have HMID : Hid (scE R wm L qD qf qu = 0 → scE R wm L qD qf m = 0 ∧ scE R wm L qD m qu = 0 ∧ scQ R wm L qD qf m = (scQ R wm L qD qf qu).filter (bfr m) ∧ scQ R wm L qD m qu = (scQ R wm L qD qf qu).filter (aft m)) := sc_mid (by omega) (by omega)
      have HNON : Hid (scE R wm L qD qf qu ≠ 0 → scQ R wm L qD qf qu = []) := sc_none
      have x0 := (cell_row HX2.out 0 (by simp)).1
      have x1 := (cell_row HX2.out 1 (by simp)).1
      have y0 := (cell_row HY2.out 0 (by simp)).1
      simp only [List.getElem_toArray, List.getElem_cons_zero, List.getElem_cons_succ] at x0 x1 y0
      clear HLG
      go_wp2_with fail
      refine HSA.out.mono ?_
      clear HSA x0 x1 y0 y2 y3
      rintro e w3 ⟨hb3, xa, xc, xs, rfl, hT1, hM1, -⟩
      have HX3 : Hid (w3.heap[w.heap.size]? = some (.cells #[.slice R.a R.len R.cap, .int .i64 R.kp] 24)) := (hb3.block _ (Array.getElem?_eq_some_iff.1 HX2.out).1).trans HX2.out
      have HY3 : Hid (w3.heap[w.heap.size + 1]? = some (.cells #[.slice da dn dc, .int .i64 qt, .int .i64 qf, .int .i64 qu, .int .i64 qm] 28)) := (hb3.block _ (Array.getElem?_eq_some_iff.1 HY2.out).1).trans HY2.out
      have HB3 : Hid (Below w.heap.size w w3) := HB2.out.trans (hb3.mono HB2.out.size)
      have HM1 : Hid (xs.map itR = scQ R wm L qD qf qu) := hM1
      obtain ⟨n1, Hn1⟩ := hid_ex xs.length
      rw [← Hn1.out] at hT1 ⊢
      have HT1 : Hid (TReads w3 (.slice xa n1 xc) xs) := hT1
      obtain ⟨c1, Hc1⟩ := hid_ex (scE R wm L qD qf qu)
      rw [← Hc1.out] at HMID HNON ⊢
      have HSB : Hid (Calls Tryz.prog 14 #[.agg #[.slice R.a R.len R.cap, .int .i64 R.kp], .int .i64 wm, .slice a ln cap, .slice da dn dc, .int .i64 qf, .int .i64 m] w3 (RwPost (scQ R wm L qD qf m) (scE R wm L qD qf m) w3)) := HSC.out _ _ _ HOK2.out HB3.out
      have x0 := (cell_row HX3.out 0 (by simp)).1
      have x1 := (cell_row HX3.out 1 (by simp)).1
      have y0 := (cell_row HY3.out 0 (by simp)).1
      have y2 := (cell_row HY3.out 2 (by simp)).1
      simp only [List.getElem_toArray, List.getElem_cons_zero, List.getElem_cons_succ] at x0 x1 y0 y2
      clear hb3 hT1 hM1 HX2 HY2 HB2
      go_wp2_with fail
      refine HSB.out.mono ?_
      clear HSB x0 x1 y0 y2
      rintro e w4 ⟨hb4, ya, yc, ys, rfl, hT2, hM2, -⟩
      have HX4 : Hid (w4.heap[w.heap.size]? = some (.cells #[.slice R.a R.len R.cap, .int .i64 R.kp] 24)) := (hb4.block _ (Array.getElem?_eq_some_iff.1 HX3.out).1).trans HX3.out
      have HY4 : Hid (w4.heap[w.heap.size + 1]? = some (.cells #[.slice da dn dc, .int .i64 qt, .int .i64 qf, .int .i64 qu, .int .i64 qm] 28)) := (hb4.block _ (Array.getElem?_eq_some_iff.1 HY3.out).1).trans HY3.out
      have HB4 : Hid (Below w.heap.size w w4) := HB3.out.trans (hb4.mono HB3.out.size)
      have HM2 : Hid (ys.map itR = scQ R wm L qD qf m) := hM2
      obtain ⟨n2, Hn2⟩ := hid_ex ys.length
      rw [← Hn2.out] at hT2 ⊢
      have HT2 : Hid (TReads w4 (.slice ya n2 yc) ys) := hT2
      have HT14 : Hid (TReads w4 (.slice xa n1 xc) xs) := HT1.out.below hb4
      obtain ⟨c2, Hc2⟩ := hid_ex (scE R wm L qD qf m)
      rw [← Hc2.out] at HMID ⊢
      have HSB : Hid (Calls Tryz.prog 14 #[.agg #[.slice R.a R.len R.cap, .int .i64 R.kp], .int .i64 wm, .slice a ln cap, .slice da dn dc, .int .i64 m, .int .i64 qu] w4 (RwPost (scQ R wm L qD m qu) (scE R wm L qD m qu) w4)) := HSC.out _ _ _ HOK2.out HB4.out
      have x0 := (cell_row HX4.out 0 (by simp)).1
      have x1 := (cell_row HX4.out 1 (by simp)).1
      have y0 := (cell_row HY4.out 0 (by simp)).1
      have y3 := (cell_row HY4.out 3 (by simp)).1
      simp only [List.getElem_toArray, List.getElem_cons_zero, List.getElem_cons_succ] at x0 x1 y0 y3
      clear hb4 hT2 hM2 HX3 HY3 HB3 HT1
      go_wp2_with fail
      refine HSB.out.mono ?_
      clear HSB x0 x1 y0 y3
      rintro e w5 ⟨hb5, za, zc, zs, rfl, hT3, hM3, -⟩
      have HB5 : Hid (Below w.heap.size w w5) := HB4.out.trans (hb5.mono HB4.out.size)
      have HM3 : Hid (zs.map itR = scQ R wm L qD m qu) := hM3
      obtain ⟨n3, Hn3⟩ := hid_ex zs.length
      rw [← Hn3.out] at hT3 ⊢
      have HT3 : Hid (TReads w5 (.slice za n3 zc) zs) := hT3
      have HT15 : Hid (TReads w5 (.slice xa n1 xc) xs) := HT14.out.below hb5
      have HT25 : Hid (TReads w5 (.slice ya n2 yc) ys) := HT2.out.below hb5
      obtain ⟨c3, Hc3⟩ := hid_ex (scE R wm L qD m qu)
      rw [← Hc3.out] at HMID ⊢
      have hbd1 : n1 ≤ 9223372036854775807 ∧ n2 ≤ 9223372036854775807 ∧ n3 ≤ 9223372036854775807 := by
        obtain ⟨_, _, e1, i1, j1⟩ := HT15.out.form17
        obtain ⟨_, _, e2, i2, j2⟩ := HT25.out.form17
        obtain ⟨_, _, e3, i3, j3⟩ := HT3.out.form17
        simp only [Value.slice.injEq] at e1 e2 e3
        unfold maxLen at j1 j2 j3
        have := Hn1.out; have := Hn2.out; have := Hn3.out
        omega
      obtain ⟨hb1n, hb2n, hb3n⟩ := hbd1
      clear hb5 hT3 hM3 HX4 HY4 HB4 HT14 HT2 HSC HOK2 h1 h2
      by_cases hc1 : c1 = 0
      · obtain ⟨hc2, hc3, hA, hB⟩ := HMID.out hc1
        rw [← HM1.out] at hA hB
        have HA : Hid (ys.map itR = (xs.map itR).filter (bfr m)) := HM2.out.trans hA
        have HB : Hid (zs.map itR = (xs.map itR).filter (aft m)) := HM3.out.trans hB
        subst hc1
        have HC2 : Hid (c2 = 0) := hc2
        have HC3 : Hid (c3 = 0) := hc3
        clear hA hB hc2 hc3 HMID HNON HM1 HM2 HM3 Hc1 Hc2 Hc3
        go_wp2_with fail
        go_loopw [17, 18, 19] (fun i k n wr => ∃ j : Nat, n = .int .i64 (j : Int) ∧ j ≤ n1 ∧ i = .int .i64 ((cntR (bfr m) xs j : Nat) : Int) ∧ k = .int .i64 ((cntR (aft m) xs j : Nat) : Int) ∧ Hid (Below w5.heap.size w5 wr)) (fun _ _ n _ => n1 - (intOf n).toNat)
        case atStart => exact ⟨0, rfl, by omega, by rw [cntR_zero]; rfl, by rw [cntR_zero]; rfl, Below.refl _ _⟩
        case round =>
          obtain ⟨j, rfl, hj, rfl, rfl, HW⟩ := hrel
          by_cases hlt : j < n1
          · have hlt' : (j : Int) < (n1 : Int) := by omega
            have hjx : j < xs.length := by rw [← Hn1.out]; exact hlt
            obtain ⟨x, Hx⟩ := hid_ex xs[j]
            obtain ⟨s1, s1c, hsl1, hst1⟩ := tsl_one (HT15.out.below HW.out) Hn1.out.symm hlt Hx.out.symm
            have HAS : Hid (Calls Tryz.prog 13 #[.slice s1 1 s1c] wr fun e w' => ∃ v', e = .returned v' ∧ TReads w' v' [x] ∧ Below wr.heap.size wr w') := as17_any _ [x] wr hst1 (by simp)
            obtain ⟨ci, Hci⟩ := hid_ex (cntR (bfr m) xs j)
            obtain ⟨ck, Hck⟩ := hid_ex (cntR (aft m) xs j)
            have hcib : ci ≤ j := by rw [Hci.out]; exact cntR_le _ _ _
            have hckb : ck ≤ j := by rw [Hck.out]; exact cntR_le _ _ _
            rw [← Hci.out, ← Hck.out]
            clear hst1
            go_wp2_with fail
            refine HAS.out.mono ?_
            clear HAS hsl1
            rintro e wA ⟨vA, rfl, hTA, hbA⟩
            have HWA : Hid (Below w5.heap.size w5 wA) := HW.out.trans (hbA.mono HW.out.size)
            have HTA : Hid (TReads wA vA [x]) := hTA
            clear hTA hbA HW
            obtain ⟨f, Hf⟩ := hid_ex x.f
            obtain ⟨b9, o9, hb9, hN9⟩ : ∃ b o, xa = some ⟨b, o, none⟩ ∧ wA.cell? ⟨b, o + j * 9 + 1, none⟩ = some (.int .i64 f) := by
              obtain ⟨b, o, e, hn, _⟩ := (HT15.out.below HWA.out).nine hjx (v := x.v) (D := x.D) (f := x.f) (z := x.g) (g := x.a) Hx.out.symm
              exact ⟨b, o, e, by rw [Hf.out]; exact hn.c1⟩
            subst hb9
            by_cases hx : f < m
            · have hbf : bfr m (itR x) = true := by unfold bfr; rw [show (itR x).f = f from Hf.out.symm]; exact decide_eq_true hx
              have hxl := hx
              obtain ⟨hi, hyx, hnext⟩ := cntR_yes HA.out hjx (by rw [← Hx.out]; exact hbf)
              have hnx2 := cntR_no (p := aft m) hjx (by rw [← Hx.out]; unfold aft; rw [hbf]; rfl)
              have hck : ci < n2 := by rw [Hn2.out, Hci.out]; exact hi
              obtain ⟨y, Hy⟩ := hid_ex ys[cntR (bfr m) xs j]
              obtain ⟨s2, s2c, hsl2, hst2⟩ := tsl_one (HT25.out.below HWA.out) Hn2.out.symm (k := ci) hck (x := y) (by rw [Hy.out]; congr 1)
              have HAS2 : Hid (Calls Tryz.prog 13 #[.slice s2 1 s2c] wA fun e w' => ∃ v', e = .returned v' ∧ TReads w' v' [y] ∧ Below wA.heap.size wA w') := as17_any _ [y] wA hst2 (by simp)
              have HXY : Hid (itR x = itR y) := by rw [Hx.out, Hy.out]; exact hyx.symm
              rw [← Hci.out] at hnext
              rw [← Hck.out] at hnx2
              have HNX : Hid (cntR (bfr m) xs (j + 1) = ci + 1) := hnext
              have HNY : Hid (cntR (aft m) xs (j + 1) = ck) := hnx2
              have hck' : (ci : Int) < (n2 : Int) := by omega
              clear Hy hi hyx hnext hnx2 hst2 hbf
              go_wp2_with fail
              refine HAS2.out.mono ?_
              clear HAS2
              rintro e wB ⟨vB, rfl, hTB, hbB⟩
              have HSM : Hid (Calls Tryz.prog 12 #[vA, vB] wB fun e w' => e = .returned (.bool true) ∧ Below wB.heap.size wB w') := sameAll17_true vA vB [x] [y] wB (HTA.out.below hbB) hTB (by rw [List.map_cons, List.map_cons, HXY.out])
              have HWB : Hid (Below w5.heap.size w5 wB) := HWA.out.trans (hbB.mono HWA.out.size)
              clear hTB hbB hN9 hxl hsl2
              go_wp2_with fail
              refine HSM.out.mono ?_
              clear HSM
              rintro e wC ⟨rfl, hbC⟩
              have HWC : Hid (Below w5.heap.size w5 wC) := HWB.out.trans (hbC.mono HWB.out.size)
              clear hbC
              go_wp2_with fail
              go_roundw
              case rel => exact ⟨j + 1, by go_num, by omega, by rw [HNX.out]; go_num, by rw [HNY.out], HWC⟩
              case measure => simp [intOf]; omega
            · have hbf : bfr m (itR x) = false := by unfold bfr; rw [show (itR x).f = f from Hf.out.symm]; exact decide_eq_false hx
              have hxl := hx
              by_cases hcn : ci < n2
              · have hcn' : (ci : Int) < (n2 : Int) := by omega
                have hk : aft m (itR x) = true := by unfold aft; rw [hbf]; rfl
                obtain ⟨hi, hyx, hnext⟩ := cntR_yes HB.out hjx (by rw [← Hx.out]; exact hk)
                have hnx2 := cntR_no (p := bfr m) hjx (by rw [← Hx.out]; exact hbf)
                have hck : ck < n3 := by rw [Hn3.out, Hck.out]; exact hi
                obtain ⟨y, Hy⟩ := hid_ex zs[cntR (aft m) xs j]
                obtain ⟨s2, s2c, hsl2, hst2⟩ := tsl_one (HT3.out.below HWA.out) Hn3.out.symm (k := ck) hck (x := y) (by rw [Hy.out]; congr 1)
                have HAS2 : Hid (Calls Tryz.prog 13 #[.slice s2 1 s2c] wA fun e w' => ∃ v', e = .returned v' ∧ TReads w' v' [y] ∧ Below wA.heap.size wA w') := as17_any _ [y] wA hst2 (by simp)
                have HXY : Hid (itR x = itR y) := by rw [Hx.out, Hy.out]; exact hyx.symm
                rw [← Hck.out] at hnext
                rw [← Hci.out] at hnx2
                have HNX : Hid (cntR (aft m) xs (j + 1) = ck + 1) := hnext
                have HNY : Hid (cntR (bfr m) xs (j + 1) = ci) := hnx2
                have hck' : (ck : Int) < (n3 : Int) := by omega
                clear Hy hi hyx hnext hnx2 hst2 hk hbf
                go_wp2_with fail
                refine HAS2.out.mono ?_
                clear HAS2
                rintro e wB ⟨vB, rfl, hTB, hbB⟩
                have HSM : Hid (Calls Tryz.prog 12 #[vA, vB] wB fun e w' => e = .returned (.bool true) ∧ Below wB.heap.size wB w') := sameAll17_true vA vB [x] [y] wB (HTA.out.below hbB) hTB (by rw [List.map_cons, List.map_cons, HXY.out])
                have HWB : Hid (Below w5.heap.size w5 wB) := HWA.out.trans (hbB.mono HWA.out.size)
                clear hTB hbB hN9 hxl hsl2
                go_wp2_with fail
                refine HSM.out.mono ?_
                clear HSM
                rintro e wC ⟨rfl, hbC⟩
                have HWC : Hid (Below w5.heap.size w5 wC) := HWB.out.trans (hbC.mono HWB.out.size)
                clear hbC
                go_wp2_with fail
                go_roundw
                case rel => exact ⟨j + 1, by go_num, by omega, by rw [HNY.out], by rw [HNX.out]; go_num, HWC⟩
                case measure => simp [intOf]; omega
              · have hcn' : ¬ (ci : Int) < (n2 : Int) := by omega
                have hk : aft m (itR x) = true := by unfold aft; rw [hbf]; rfl
                obtain ⟨hi, hyx, hnext⟩ := cntR_yes HB.out hjx (by rw [← Hx.out]; exact hk)
                have hnx2 := cntR_no (p := bfr m) hjx (by rw [← Hx.out]; exact hbf)
                have hck : ck < n3 := by rw [Hn3.out, Hck.out]; exact hi
                obtain ⟨y, Hy⟩ := hid_ex zs[cntR (aft m) xs j]
                obtain ⟨s2, s2c, hsl2, hst2⟩ := tsl_one (HT3.out.below HWA.out) Hn3.out.symm (k := ck) hck (x := y) (by rw [Hy.out]; congr 1)
                have HAS2 : Hid (Calls Tryz.prog 13 #[.slice s2 1 s2c] wA fun e w' => ∃ v', e = .returned v' ∧ TReads w' v' [y] ∧ Below wA.heap.size wA w') := as17_any _ [y] wA hst2 (by simp)
                have HXY : Hid (itR x = itR y) := by rw [Hx.out, Hy.out]; exact hyx.symm
                rw [← Hck.out] at hnext
                rw [← Hci.out] at hnx2
                have HNX : Hid (cntR (aft m) xs (j + 1) = ck + 1) := hnext
                have HNY : Hid (cntR (bfr m) xs (j + 1) = ci) := hnx2
                have hck' : (ck : Int) < (n3 : Int) := by omega
                clear Hy hi hyx hnext hnx2 hst2 hk hbf
                go_wp2_with fail
                refine HAS2.out.mono ?_
                clear HAS2
                rintro e wB ⟨vB, rfl, hTB, hbB⟩
                have HSM : Hid (Calls Tryz.prog 12 #[vA, vB] wB fun e w' => e = .returned (.bool true) ∧ Below wB.heap.size wB w') := sameAll17_true vA vB [x] [y] wB (HTA.out.below hbB) hTB (by rw [List.map_cons, List.map_cons, HXY.out])
                have HWB : Hid (Below w5.heap.size w5 wB) := HWA.out.trans (hbB.mono HWA.out.size)
                clear hTB hbB hN9 hxl hsl2
                go_wp2_with fail
                refine HSM.out.mono ?_
                clear HSM
                rintro e wC ⟨rfl, hbC⟩
                have HWC : Hid (Below w5.heap.size w5 wC) := HWB.out.trans (hbC.mono HWB.out.size)
                clear hbC
                go_wp2_with fail
                go_roundw
                case rel => exact ⟨j + 1, by go_num, by omega, by rw [HNY.out], by rw [HNX.out]; go_num, HWC⟩
                case measure => simp [intOf]; omega
          · obtain rfl : j = n1 := by omega
            have hlt' : ¬ (j : Int) < (j : Int) := by omega
            have HE2 : Hid (cntR (bfr m) xs j = n2) := by unfold Hid; rw [Hn1.out, Hn2.out]; exact cntR_end HA.out
            have HE3 : Hid (cntR (aft m) xs j = n3) := by unfold Hid; rw [Hn1.out, Hn3.out]; exact cntR_end HB.out
            have HBW : Hid (Below w.heap.size w wr) := HB5.out.trans (HW.out.mono HB5.out.size)
            rw [HE2.out, HE3.out]
            obtain rfl := HC2.out
            obtain rfl := HC3.out
            clear HE2 HE3 HW
            go_wp2_with fail
            refine (HAL.out _ HBW.out).mono ?_
            rintro e w6 ⟨rfl, hb6⟩
            have HB6 : Hid (Below w.heap.size w w6) := hb6
            clear hb6
            go_wp2_with fail
            go_ret
            exact ⟨rfl, HB6.out⟩
      · have hnil : xs = [] := by
          have := HM1.out
          rw [HNON.out hc1] at this
          exact List.map_eq_nil_iff.1 this
        have hn1 : n1 = 0 := by rw [Hn1.out, hnil]; rfl
        subst hn1
        have hcb : (c1 == 0) = false := by simp [hc1]
        have hcb' : (c1 != 0) = true := by simp [hc1]
        have HB5' := HB5
        clear hnil HMID HNON HM1 HM2 HM3 Hc1 Hc2 Hc3 HT15 HT25 HT3
        go_wp2_with fail
        refine (HAL.out _ HB5'.out).mono ?_
        rintro e w6 ⟨rfl, hb6⟩
        have HB6 : Hid (Below w.heap.size w w6) := hb6
        clear hb6
        go_wp2_with fail
        go_ret
        exact ⟨rfl, HB6.out⟩
end Go.Proofs.YtoenijflijfogaaGreat
