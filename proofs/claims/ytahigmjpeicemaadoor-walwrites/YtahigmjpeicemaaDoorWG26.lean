/- WWr, joined. -/
import Derived.Test.YtahigmjpeicemaaDoorWG22
import Derived.Test.YtahigmjpeicemaaDoorWG25
/- The walk of WalWrites. -/
namespace Go.Proofs.YtahigmjpeicemaaDoor
open Go.RowKit Go.Shelf

set_option maxRecDepth 100000 in
theorem rcopy12 (v : Value) (l : List UInt8) (hl : l.length ≤ 100000) (w : World) (hr : Reads w v l) :
    Calls Tryd.prog 11 #[v] w fun e w' => ∃ v', e = .returned v' ∧ Own w' w.heap.size v' l ∧ Below w.heap.size w w' := by
  go_enter Tryd.func11, Tryd.ntmps11
  go_wp2_with (at_builtin; refine wpList_app rfl _ _ rfl w.heap.size _ _ [] l l rfl rfl rfl (Own.nil _ _) hr (by simp; omega) (Nat.le_refl _) ?_)
  intro v2 w2 HO2 hb2
  clear hr
  go_wp2_with fail
  go_ret
  exact ⟨v2, rfl, HO2, hb2.out⟩
theorem rc_one (w : World) (f : Fa) (h : FaR w f) : RcOk (w.alloc (.cells #[f.v, .int .i64 f.t, .int .i64 f.x] 27)) ⟨.slice (some ⟨w.heap.size, 0, none⟩) 1 1, [f], 0⟩ := by
  have hb : Below w.heap.size w (w.alloc (.cells #[f.v, .int .i64 f.t, .int .i64 f.x] 27)) := (Below.refl _ _).alloc (Nat.le_refl _) _
  refine ⟨⟨some ⟨w.heap.size, 0, none⟩, 1, rfl, Nat.le_refl _, by unfold maxLen; decide, .inr ⟨w.heap.size, 0, rfl, by simp, fun j hj => ?_⟩⟩, by simp, by simp⟩
  obtain rfl : j = 0 := by simp at hj; omega
  refine ⟨fun i hi => ?_, h.r.below hb, h.b⟩
  match i, hi with
  | 0, _ => simp [c3]
  | 1, _ => simp [c3]
  | 2, _ => simp [c3]
theorem eqR_yes {a b : Rc} (h1 : a.p = b.p) (h2 : a.m = b.m) : eqR a b = true := by unfold eqR; rw [decide_eq_true_eq]; exact ⟨h2, h1⟩
set_option maxRecDepth 100000 in
set_option maxHeartbeats 8000000 in
theorem writes_walk (r : Rc) (f : Fa) (bv : Value) (b : List UInt8) (W : World) (hr : RcOk W r) (hf : FaR W f) (hbr : Reads W bv b) :
    Calls Tryd.prog 3 #[r.val, f.val, bv] W fun e w' => e = .returned (.bool true) ∧ Below W.heap.size W w' := by
  obtain ⟨a, ac, hav, _⟩ := hr.f.form
  obtain ⟨fa, fc, hfv, _⟩ := hf.r.form
  obtain ⟨ba, bcp, rfl, hbm⟩ := hbr.form
  unfold maxLen at hbm
  have HR : Hid (RcOk W r) := hr
  have HF : Hid (FaR W f) := hf
  have HBr : Hid (Reads W (.slice ba b.length bcp) b) := hbr
  have er : r.val = .agg #[.slice a r.fs.length ac, .int .i64 r.m] := by unfold Rc.val; rw [hav]
  have ef : f.val = .agg #[.slice fa f.D.length fc, .int .i64 f.t, .int .i64 f.x] := by unfold Fa.val; rw [hfv]
  have HGr : Hid (∀ w, RcOk w r → Calls Tryd.prog 5 #[.agg #[.slice a r.fs.length ac, .int .i64 r.m]] w (GrPost w)) := fun w h => by rw [← er]; exact great_any r w h
  have HGf : Hid (∀ w, FaR w f → Calls Tryd.prog 5 #[.agg #[.slice (some ⟨w.heap.size, 0, none⟩) 1 1, .int .i64 0]] (w.alloc (.cells #[.slice fa f.D.length fc, .int .i64 f.t, .int .i64 f.x] 27)) (GrPost (w.alloc (.cells #[.slice fa f.D.length fc, .int .i64 f.t, .int .i64 f.x] 27)))) := fun w h => by
    have h2 := rc_one w f h
    rw [hfv] at h2
    exact great_any ⟨.slice (some ⟨w.heap.size, 0, none⟩) 1 1, [f], 0⟩ _ h2
  have HWr : Hid (∀ w, RcOk w r → Calls Tryd.prog 7 #[.agg #[.slice a r.fs.length ac, .int .i64 r.m]] w fun e w' => ∃ v, e = .returned (.tuple #[v, .int .i64 (wrE r)]) ∧ Own w' w.heap.size v (wrB r) ∧ Below w.heap.size w w') := fun w h => by rw [← er]; exact walWrite_any r w h
  have HVr : Hid (∀ w, RcOk w r → Calls Tryd.prog 8 #[.agg #[.slice a r.fs.length ac, .int .i64 r.m]] w fun e w' => ∃ v, e = .returned (.tuple #[v, .int .i64 (wrE r)]) ∧ Own w' w.heap.size v (wrB r) ∧ Below w.heap.size w w') := fun w h => by rw [← er]; exact wrefWrite_any r w h
  have HAr : Hid (∀ w, RcOk w r → Calls Tryd.prog 9 #[.agg #[.slice a r.fs.length ac, .int .i64 r.m]] w fun e w' => e = .returned (.agg #[.slice a r.fs.length ac, .int .i64 r.m]) ∧ Below w.heap.size w w') := fun w h => by rw [← er]; exact as_any r w h
  obtain ⟨mp, Hmp⟩ := hid_ex (mayP f.p)
  have HM1 : Hid (∀ w, FaR w f → Calls Tryd.prog 13 #[.agg #[.slice fa f.D.length fc, .int .i64 f.t, .int .i64 f.x]] w fun e w' => e = .returned (.bool mp) ∧ Below w.heap.size w w') := fun w h => by rw [← ef, Hmp.out]; exact may_any f w h
  have HM2 : Hid (∀ w, FaR w f → Calls Tryd.prog 14 #[.agg #[.slice fa f.D.length fc, .int .i64 f.t, .int .i64 f.x]] w fun e w' => e = .returned (.bool mp) ∧ Below w.heap.size w w') := fun w h => by rw [← ef, Hmp.out]; exact wrefMay_any f w h
  rw [er, ef]
  clear er ef hav hfv hr hf hbr Hmp
  have HB0 : Hid (Below W.heap.size W ((W.alloc (.cells #[.slice a r.fs.length ac, .int .i64 r.m] 24)).alloc (.cells #[.slice fa f.D.length fc, .int .i64 f.t, .int .i64 f.x] 27))) := ((Below.refl _ _).alloc (Nat.le_refl _) _).alloc (by simp) _
  have HX0 : Hid (((W.alloc (.cells #[.slice a r.fs.length ac, .int .i64 r.m] 24)).alloc (.cells #[.slice fa f.D.length fc, .int .i64 f.t, .int .i64 f.x] 27)).heap[W.heap.size]? = some (.cells #[.slice a r.fs.length ac, .int .i64 r.m] 24)) := (Below.heap_alloc _ _ _ (by simp)).trans (World.alloc_heap_new _ _)
  have HY0 : Hid (((W.alloc (.cells #[.slice a r.fs.length ac, .int .i64 r.m] 24)).alloc (.cells #[.slice fa f.D.length fc, .int .i64 f.t, .int .i64 f.x] 27)).heap[W.heap.size + 1]? = some (.cells #[.slice fa f.D.length fc, .int .i64 f.t, .int .i64 f.x] 27)) := by
    have := World.alloc_heap_new (W.alloc (.cells #[.slice a r.fs.length ac, .int .i64 r.m] 24)) (.cells #[.slice fa f.D.length fc, .int .i64 f.t, .int .i64 f.x] 27)
    rwa [World.size_alloc] at this
  go_enter Tryd.func3, Tryd.ntmps3
  go_wp2_with fail
  refine (HGr.out _ (HR.out.below HB0.out)).mono ?_
  rintro e w1 ⟨g, rfl, hb1⟩
  have HB1 : Hid (Below W.heap.size W w1) := HB0.out.trans (hb1.mono (by simp; omega))
  have HX1 : Hid (w1.heap[W.heap.size]? = _) := (hb1.block _ (by simp; omega)).trans HX0.out
  have HY1 : Hid (w1.heap[W.heap.size + 1]? = _) := (hb1.block _ (by simp)).trans HY0.out
  clear hb1 HB0 HX0 HY0 HGr
  have y0 := cl3 HY1.out 0 (by simp)
  have y1 := cl3 HY1.out 1 (by simp)
  have y2 := cl3 HY1.out 2 (by simp)
  simp only [List.getElem_toArray, List.getElem_cons_succ, List.getElem_cons_zero] at y0 y1 y2
  cases g with
  | true =>
    go_wp2_with fail
    refine (alive12_any _).mono ?_
    rintro e w9 ⟨rfl, hb9⟩
    go_wp2_with fail
    go_ret
    exact ⟨rfl, HB1.out.trans (hb9.mono HB1.out.size)⟩
  | false =>
    go_wp2_with fail
    refine (HGf.out _ (HF.out.below HB1.out)).mono ?_
    rintro e w2 ⟨g2, rfl, hb2'⟩
    have hb2 : Below w1.heap.size w1 w2 := ((Below.refl _ _).alloc (Nat.le_refl _) _).trans (hb2'.mono (by simp))
    have HB2 : Hid (Below W.heap.size W w2) := HB1.out.trans (hb2.mono HB1.out.size)
    have HX2 : Hid (w2.heap[W.heap.size]? = _) := (hb2.block _ (Array.getElem?_eq_some_iff.1 HX1.out).1).trans HX1.out
    have HY2 : Hid (w2.heap[W.heap.size + 1]? = _) := (hb2.block _ (Array.getElem?_eq_some_iff.1 HY1.out).1).trans HY1.out
    clear hb2 hb2' HB1 HX1 HY1 HGf y0 y1 y2
    cases g2 with
    | true =>
      go_wp2_with fail
      refine (alive12_any _).mono ?_
      rintro e w9 ⟨rfl, hb9⟩
      go_wp2_with fail
      go_ret
      exact ⟨rfl, HB2.out.trans (hb9.mono HB2.out.size)⟩
    | false =>
      by_cases h3 : (3000 : Int) < (b.length : Int)
      · go_wp2_with fail
        refine (alive12_any _).mono ?_
        rintro e w9 ⟨rfl, hb9⟩
        go_wp2_with fail
        go_ret
        exact ⟨rfl, HB2.out.trans (hb9.mono HB2.out.size)⟩
      · have HBl : Hid (b.length ≤ 3000) := by show _ ≤ _; omega
        have d3 : decide ((3000 : Int) < (b.length : Int)) = false := decide_eq_false h3
        have x0 := cl3 HX2.out 0 (by simp)
        have x1 := cl3 HX2.out 1 (by simp)
        simp only [List.getElem_toArray, List.getElem_cons_succ, List.getElem_cons_zero] at x0 x1
        go_wp2_with fail
        refine (HWr.out _ (HR.out.below HB2.out)).mono ?_
        rintro e w3 ⟨vp, rfl, hop, hb3⟩
        have HB3 : Hid (Below W.heap.size W w3) := HB2.out.trans (hb3.mono HB2.out.size)
        have HX3 : Hid (w3.heap[W.heap.size]? = _) := (hb3.block _ (Array.getElem?_eq_some_iff.1 HX2.out).1).trans HX2.out
        have HY3 : Hid (w3.heap[W.heap.size + 1]? = _) := (hb3.block _ (Array.getElem?_eq_some_iff.1 HY2.out).1).trans HY2.out
        have HP3 : Hid (Reads w3 vp (wrB r)) := hop.reads
        clear hb3 HB2 HX2 HY2 HWr x0 x1 hop
        have x0 := cl3 HX3.out 0 (by simp)
        have x1 := cl3 HX3.out 1 (by simp)
        simp only [List.getElem_toArray, List.getElem_cons_succ, List.getElem_cons_zero] at x0 x1
        go_wp2_with fail
        refine (HAr.out _ (HR.out.below HB3.out)).mono ?_
        rintro e w4 ⟨rfl, hb4⟩
        have HB4 : Hid (Below W.heap.size W w4) := HB3.out.trans (hb4.mono HB3.out.size)
        have HY4 : Hid (w4.heap[W.heap.size + 1]? = _) := (hb4.block _ (Array.getElem?_eq_some_iff.1 HY3.out).1).trans HY3.out
        have HP4 : Hid (Reads w4 vp (wrB r)) := HP3.out.below hb4
        clear hb4 HB3 HX3 HY3 HAr x0 x1 HP3
        go_wp2_with fail
        refine (HVr.out _ (HR.out.below HB4.out)).mono ?_
        rintro e w5 ⟨vq, rfl, hoq, hb5⟩
        have HB5 : Hid (Below W.heap.size W w5) := HB4.out.trans (hb5.mono HB4.out.size)
        have HY5 : Hid (w5.heap[W.heap.size + 1]? = _) := (hb5.block _ (Array.getElem?_eq_some_iff.1 HY4.out).1).trans HY4.out
        have HP5 : Hid (Reads w5 vp (wrB r)) := HP4.out.below hb5
        have HQ5 : Hid (Reads w5 vq (wrB r)) := hoq.reads
        clear hb5 HB4 HY4 HVr HP4 hoq
        go_wp2_with fail
        refine (rcopy12 _ b (by have := HBl.out; omega) _ (HBr.out.below HB5.out)).mono ?_
        rintro e w6 ⟨vc, rfl, hoc, hb6⟩
        have HB6 : Hid (Below W.heap.size W w6) := HB5.out.trans (hb6.mono HB5.out.size)
        have HY6 : Hid (w6.heap[W.heap.size + 1]? = _) := (hb6.block _ (Array.getElem?_eq_some_iff.1 HY5.out).1).trans HY5.out
        have HP6 : Hid (Reads w6 vp (wrB r)) := HP5.out.below hb6
        have HQ6 : Hid (Reads w6 vq (wrB r)) := HQ5.out.below hb6
        have HC6 : Hid (Reads w6 vc b) := hoc.reads
        clear hb6 HB5 HY5 HP5 HQ5 hoc
        go_wp2_with fail
        refine (walRead_any vc b (by have := HBl.out; omega) _ HC6.out).mono ?_
        rintro e w7 ⟨hb7, s, rfl, hs7, _, hsp, hsm⟩
        obtain ⟨sa, sc, hsv, _⟩ := hs7.f.form
        have es : s.val = .agg #[.slice sa s.fs.length sc, .int .i64 s.m] := by unfold Rc.val; rw [hsv]
        rw [es]
        have HB7 : Hid (Below W.heap.size W w7) := HB6.out.trans (hb7.mono HB6.out.size)
        have hbA : Below w7.heap.size w7 (w7.alloc (.cells #[.slice sa s.fs.length sc, .int .i64 s.m] 24)) := (Below.refl _ _).alloc (Nat.le_refl _) _
        have hb7A := hb7.trans (hbA.mono hb7.size)
        have HB8 : Hid (Below W.heap.size W (w7.alloc (.cells #[.slice sa s.fs.length sc, .int .i64 s.m] 24))) := HB7.out.trans (hbA.mono HB7.out.size)
        have HY8 : Hid ((w7.alloc (.cells #[.slice sa s.fs.length sc, .int .i64 s.m] 24)).heap[W.heap.size + 1]? = _) := (hb7A.block _ (Array.getElem?_eq_some_iff.1 HY6.out).1).trans HY6.out
        have HP8 : Hid (Reads (w7.alloc (.cells #[.slice sa s.fs.length sc, .int .i64 s.m] 24)) vp (wrB r)) := HP6.out.below hb7A
        have HQ8 : Hid (Reads (w7.alloc (.cells #[.slice sa s.fs.length sc, .int .i64 s.m] 24)) vq (wrB r)) := HQ6.out.below hb7A
        have HS8 : Hid (RcOk (w7.alloc (.cells #[.slice sa s.fs.length sc, .int .i64 s.m] 24)) s) := hs7.below hbA
        have HZ8 : Hid ((w7.alloc (.cells #[.slice sa s.fs.length sc, .int .i64 s.m] 24)).heap[w7.heap.size]? = some (.cells #[.slice sa s.fs.length sc, .int .i64 s.m] 24)) := World.alloc_heap_new _ _
        have HSp : Hid (s.p = (rdV b).1) := hsp
        have HSm : Hid (s.m = (rdV b).2) := hsm
        clear hb7 hbA hb7A HB6 HY6 HP6 HQ6 HC6 hs7 hsp hsm HB7
        go_wp2_with fail
        refine (wrefRead_any _ b (by have := HBl.out; omega) _ (HBr.out.below HB8.out)).mono ?_
        rintro e w9 ⟨hb9, t, rfl, ht9, _, htp, htm⟩
        obtain ⟨ta, tc, htv, _⟩ := ht9.f.form
        have et : t.val = .agg #[.slice ta t.fs.length tc, .int .i64 t.m] := by unfold Rc.val; rw [htv]
        rw [et]
        have HSa : Hid (∀ w, RcOk w s → RcOk w t → Calls Tryd.prog 15 #[.agg #[.slice sa s.fs.length sc, .int .i64 s.m], .agg #[.slice ta t.fs.length tc, .int .i64 t.m]] w fun e w' => e = .returned (.bool true) ∧ Below w.heap.size w w') := fun w h1 h2 => by
          have := refSame_any s t w h1 h2
          rw [eqR_yes (HSp.out.trans htp.symm) (HSm.out.trans htm.symm), es, et] at this
          exact this
        have HAs : Hid (∀ w, RcOk w s → Calls Tryd.prog 9 #[.agg #[.slice sa s.fs.length sc, .int .i64 s.m]] w fun e w' => e = .returned (.agg #[.slice sa s.fs.length sc, .int .i64 s.m]) ∧ Below w.heap.size w w') := fun w h => by rw [← es]; exact as_any s w h
        obtain ⟨wx, Hwx⟩ := hid_ex (w9.alloc (.cells #[.slice ta t.fs.length tc, .int .i64 t.m] 35))
        have hbB : Below w9.heap.size w9 wx := by rw [Hwx.out]; exact (Below.refl _ _).alloc (Nat.le_refl _) _
        have hb9B := hb9.trans (hbB.mono hb9.size)
        have HBx : Hid (Below W.heap.size W wx) := HB8.out.trans (hb9B.mono HB8.out.size)
        have HYx : Hid (wx.heap[W.heap.size + 1]? = some (.cells #[.slice fa f.D.length fc, .int .i64 f.t, .int .i64 f.x] 27)) := (hb9B.block _ (Array.getElem?_eq_some_iff.1 HY8.out).1).trans HY8.out
        have HPx : Hid (Reads wx vp (wrB r)) := HP8.out.below hb9B
        have HQx : Hid (Reads wx vq (wrB r)) := HQ8.out.below hb9B
        have HSx : Hid (RcOk wx s) := HS8.out.below hb9B
        have HZx : Hid (wx.heap[w7.heap.size]? = some (.cells #[.slice sa s.fs.length sc, .int .i64 s.m] 24)) := (hb9B.block _ (Array.getElem?_eq_some_iff.1 HZ8.out).1).trans HZ8.out
        have HTx : Hid (RcOk wx t) := ht9.below hbB
        have HUx : Hid (wx.heap[w9.heap.size]? = some (.cells #[.slice ta t.fs.length tc, .int .i64 t.m] 35)) := by rw [Hwx.out]; exact World.alloc_heap_new _ _
        obtain ⟨L, HL⟩ := hid_ex (wrB r)
        rw [← HL.out] at HPx HQx
        obtain ⟨pa, pc, rfl, _⟩ := HPx.out.form
        obtain ⟨qa, qc, rfl, _⟩ := HQx.out.form
        obtain ⟨E1, HE1⟩ := hid_ex (wrE r)
        obtain ⟨E2, HE2⟩ := hid_ex (rdE b)
        rw [← HE1.out, ← HE2.out]
        clear hb9 hbB hb9B HB8 HY8 HP8 HQ8 HS8 HZ8 ht9 htp htm es et hsv htv HSp HSm HL HE1 HE2
        go_wp2_with fail
        rw [← Hwx.out]
        clear Hwx
        refine wp_region_noPanic ?_
        refine wp_region_held_drew (S := (fun w' => Below wx.heap.size wx w')) (by kernel_rfl) ?_ (fun hHeld => ?_)
        · exact (Below.refl _ _).drew
        refine wpAnyH_ready (rs := [0]) (by kernel_rfl) (by simp) ?_
        refine AllReadyH.cons (o := _) rfl (fun K hK => ?_) AllReadyH.nil
        go_simp
        refine (alive12_any _).mono ?_
        rintro e wa ⟨rfl, hba⟩
        have HBa : Hid (Below wx.heap.size wx wa) := (Below.refl wx.heap.size wx).drew.trans hba
        clear hba
        refine hK.out _ _ ?_ (fun hHeld => ?_)
        · exact HBa.out
        clear hK K
        refine wpAnyH_take (i := 1) (v := .bool true) rfl (by kernel_rfl) (by kernel_rfl) (by kernel_rfl) (fun _ _ _ h => h) (Or.inl ⟨by rfl, ?_⟩) (by assumption) ?_
        · (intro w1 hSw; (try dsimp only at hSw); go_simp)
        simp only [List.getElem_toArray, List.getElem_cons_succ, List.getElem_cons_zero, Act.put, List.setIfInBounds_toArray, List.set_cons_zero, List.set_cons_succ]
        refine wpAnyH_take (i := 2) (v := .agg #[.slice fa f.D.length fc, .int .i64 f.t, .int .i64 f.x]) rfl (by kernel_rfl) (by kernel_rfl) (by kernel_rfl) (fun _ _ _ h => h) (Or.inl ⟨by rfl, ?_⟩) (by assumption) ?_
        · (intro w1 hSw; (try dsimp only at hSw); have hxx := (hSw.block _ (Array.getElem?_eq_some_iff.1 HYx.out).1).trans HYx.out; have h0 := cl3 hxx 0 (by simp); have h1 := cl3 hxx 1 (by simp); have h2 := cl3 hxx 2 (by simp); simp only [List.getElem_toArray, List.getElem_cons_succ, List.getElem_cons_zero] at h0 h1 h2; go_simp)
        simp only [List.getElem_toArray, List.getElem_cons_succ, List.getElem_cons_zero, Act.put, List.setIfInBounds_toArray, List.set_cons_zero, List.set_cons_succ]
        refine wpAnyH_take (i := 4) (v := .agg #[.slice fa f.D.length fc, .int .i64 f.t, .int .i64 f.x]) rfl (by kernel_rfl) (by kernel_rfl) (by kernel_rfl) (fun _ _ _ h => h) (Or.inl ⟨by rfl, ?_⟩) (by assumption) ?_
        · (intro w1 hSw; (try dsimp only at hSw); have hxx := (hSw.block _ (Array.getElem?_eq_some_iff.1 HYx.out).1).trans HYx.out; have h0 := cl3 hxx 0 (by simp); have h1 := cl3 hxx 1 (by simp); have h2 := cl3 hxx 2 (by simp); simp only [List.getElem_toArray, List.getElem_cons_succ, List.getElem_cons_zero] at h0 h1 h2; go_simp)
        simp only [List.getElem_toArray, List.getElem_cons_succ, List.getElem_cons_zero, Act.put, List.setIfInBounds_toArray, List.set_cons_zero, List.set_cons_succ]
        refine wpAnyH_ready (rs := [3]) (by kernel_rfl) (by simp) ?_
        refine AllReadyH.cons (o := _) rfl (fun K hK => ?_) AllReadyH.nil
        go_simp
        refine (HM1.out _ ((HF.out.below HBx.out).below HBa.out)).mono ?_
        rintro e wb ⟨rfl, hbb⟩
        have HBb : Hid (Below wx.heap.size wx wb) := HBa.out.trans (hbb.mono HBa.out.size)
        clear hbb
        refine hK.out _ _ ?_ (fun hHeld => ?_)
        · exact HBb.out
        clear hK K
        refine wpAnyH_ready (rs := [5]) (by kernel_rfl) (by simp) ?_
        refine AllReadyH.cons (o := _) rfl (fun K hK => ?_) AllReadyH.nil
        go_simp
        refine (HM2.out _ ((HF.out.below HBx.out).below HBb.out)).mono ?_
        rintro e wc ⟨rfl, hbc⟩
        have HBc : Hid (Below wx.heap.size wx wc) := HBb.out.trans (hbc.mono HBb.out.size)
        clear hbc
        refine hK.out _ _ ?_ (fun hHeld => ?_)
        · exact HBc.out
        clear hK K
        refine wpAnyH_take (i := 6) (v := .bool true) rfl (by kernel_rfl) (by kernel_rfl) (by kernel_rfl) (fun _ _ _ h => h) (Or.inl ⟨by rfl, ?_⟩) (by assumption) ?_
        · (intro w1 hSw; (try dsimp only at hSw); go_simp)
        simp only [List.getElem_toArray, List.getElem_cons_succ, List.getElem_cons_zero, Act.put, List.setIfInBounds_toArray, List.set_cons_zero, List.set_cons_succ]
        refine wpAnyH_take (i := 7) (v := .bool true) rfl (by kernel_rfl) (by kernel_rfl) (by kernel_rfl) (fun _ _ _ h => h) (Or.inl ⟨by rfl, ?_⟩) (by assumption) ?_
        · (intro w1 hSw; (try dsimp only at hSw); go_simp)
        simp only [List.getElem_toArray, List.getElem_cons_succ, List.getElem_cons_zero, Act.put, List.setIfInBounds_toArray, List.set_cons_zero, List.set_cons_succ]
        refine wpAnyH_take (i := 8) (v := .bool true) rfl (by kernel_rfl) (by kernel_rfl) (by kernel_rfl) (fun _ _ _ h => h) (Or.inl ⟨by rfl, ?_⟩) (by assumption) ?_
        · (intro w1 hSw; (try dsimp only at hSw); go_simp)
        simp only [List.getElem_toArray, List.getElem_cons_succ, List.getElem_cons_zero, Act.put, List.setIfInBounds_toArray, List.set_cons_zero, List.set_cons_succ]
        refine wpAnyH_take (i := 9) (v := .slice pa L.length pc) rfl (by kernel_rfl) (by kernel_rfl) (by kernel_rfl) (fun _ _ _ h => h) (Or.inl ⟨by rfl, ?_⟩) (by assumption) ?_
        · (intro w1 hSw; (try dsimp only at hSw); go_simp)
        simp only [List.getElem_toArray, List.getElem_cons_succ, List.getElem_cons_zero, Act.put, List.setIfInBounds_toArray, List.set_cons_zero, List.set_cons_succ]
        refine wpAnyH_take (i := 10) (v := .string ⟨L.toArray⟩) rfl (by kernel_rfl) (by kernel_rfl) (by kernel_rfl) (fun _ _ _ h => h) (Or.inl ⟨by rfl, ?_⟩) (by assumption) ?_
        · (intro w1 hSw; (try dsimp only at hSw); have q0 := reads_text (HPx.out.below hSw); go_simp)
        simp only [List.getElem_toArray, List.getElem_cons_succ, List.getElem_cons_zero, Act.put, List.setIfInBounds_toArray, List.set_cons_zero, List.set_cons_succ]
        refine wpAnyH_take (i := 11) (v := .slice qa L.length qc) rfl (by kernel_rfl) (by kernel_rfl) (by kernel_rfl) (fun _ _ _ h => h) (Or.inl ⟨by rfl, ?_⟩) (by assumption) ?_
        · (intro w1 hSw; (try dsimp only at hSw); go_simp)
        simp only [List.getElem_toArray, List.getElem_cons_succ, List.getElem_cons_zero, Act.put, List.setIfInBounds_toArray, List.set_cons_zero, List.set_cons_succ]
        refine wpAnyH_take (i := 12) (v := .string ⟨L.toArray⟩) rfl (by kernel_rfl) (by kernel_rfl) (by kernel_rfl) (fun _ _ _ h => h) (Or.inl ⟨by rfl, ?_⟩) (by assumption) ?_
        · (intro w1 hSw; (try dsimp only at hSw); have q0 := reads_text (HQx.out.below hSw); go_simp)
        simp only [List.getElem_toArray, List.getElem_cons_succ, List.getElem_cons_zero, Act.put, List.setIfInBounds_toArray, List.set_cons_zero, List.set_cons_succ]
        refine wpAnyH_take (i := 13) (v := .bool true) rfl (by kernel_rfl) (by kernel_rfl) (by kernel_rfl) (fun _ _ _ h => h) (Or.inl ⟨by rfl, ?_⟩) (by assumption) ?_
        · (intro w1 hSw; (try dsimp only at hSw); go_simp)
        simp only [List.getElem_toArray, List.getElem_cons_succ, List.getElem_cons_zero, Act.put, List.setIfInBounds_toArray, List.set_cons_zero, List.set_cons_succ]
        refine wpAnyH_take (i := 14) (v := .bool true) rfl (by kernel_rfl) (by kernel_rfl) (by kernel_rfl) (fun _ _ _ h => h) (Or.inl ⟨by rfl, ?_⟩) (by assumption) ?_
        · (intro w1 hSw; (try dsimp only at hSw); go_simp)
        simp only [List.getElem_toArray, List.getElem_cons_succ, List.getElem_cons_zero, Act.put, List.setIfInBounds_toArray, List.set_cons_zero, List.set_cons_succ]
        refine wpAnyH_take (i := 15) (v := .bool true) rfl (by kernel_rfl) (by kernel_rfl) (by kernel_rfl) (fun _ _ _ h => h) (Or.inl ⟨by rfl, ?_⟩) (by assumption) ?_
        · (intro w1 hSw; (try dsimp only at hSw); go_simp)
        simp only [List.getElem_toArray, List.getElem_cons_succ, List.getElem_cons_zero, Act.put, List.setIfInBounds_toArray, List.set_cons_zero, List.set_cons_succ]
        refine wpAnyH_take (i := 16) (v := .int .i64 E1) rfl (by kernel_rfl) (by kernel_rfl) (by kernel_rfl) (fun _ _ _ h => h) (Or.inl ⟨by rfl, ?_⟩) (by assumption) ?_
        · (intro w1 hSw; (try dsimp only at hSw); go_simp)
        simp only [List.getElem_toArray, List.getElem_cons_succ, List.getElem_cons_zero, Act.put, List.setIfInBounds_toArray, List.set_cons_zero, List.set_cons_succ]
        refine wpAnyH_take (i := 17) (v := .int .i64 E1) rfl (by kernel_rfl) (by kernel_rfl) (by kernel_rfl) (fun _ _ _ h => h) (Or.inl ⟨by rfl, ?_⟩) (by assumption) ?_
        · (intro w1 hSw; (try dsimp only at hSw); go_simp)
        simp only [List.getElem_toArray, List.getElem_cons_succ, List.getElem_cons_zero, Act.put, List.setIfInBounds_toArray, List.set_cons_zero, List.set_cons_succ]
        refine wpAnyH_take (i := 18) (v := .bool true) rfl (by kernel_rfl) (by kernel_rfl) (by kernel_rfl) (fun _ _ _ h => h) (Or.inl ⟨by rfl, ?_⟩) (by assumption) ?_
        · (intro w1 hSw; (try dsimp only at hSw); go_simp)
        simp only [List.getElem_toArray, List.getElem_cons_succ, List.getElem_cons_zero, Act.put, List.setIfInBounds_toArray, List.set_cons_zero, List.set_cons_succ]
        refine wpAnyH_take (i := 19) (v := .bool true) rfl (by kernel_rfl) (by kernel_rfl) (by kernel_rfl) (fun _ _ _ h => h) (Or.inl ⟨by rfl, ?_⟩) (by assumption) ?_
        · (intro w1 hSw; (try dsimp only at hSw); go_simp)
        simp only [List.getElem_toArray, List.getElem_cons_succ, List.getElem_cons_zero, Act.put, List.setIfInBounds_toArray, List.set_cons_zero, List.set_cons_succ]
        refine wpAnyH_take (i := 20) (v := .bool true) rfl (by kernel_rfl) (by kernel_rfl) (by kernel_rfl) (fun _ _ _ h => h) (Or.inl ⟨by rfl, ?_⟩) (by assumption) ?_
        · (intro w1 hSw; (try dsimp only at hSw); go_simp)
        simp only [List.getElem_toArray, List.getElem_cons_succ, List.getElem_cons_zero, Act.put, List.setIfInBounds_toArray, List.set_cons_zero, List.set_cons_succ]
        refine wpAnyH_take (i := 21) (v := .agg #[.slice sa s.fs.length sc, .int .i64 s.m]) rfl (by kernel_rfl) (by kernel_rfl) (by kernel_rfl) (fun _ _ _ h => h) (Or.inl ⟨by rfl, ?_⟩) (by assumption) ?_
        · (intro w1 hSw; (try dsimp only at hSw); have hxx := (hSw.block _ (Array.getElem?_eq_some_iff.1 HZx.out).1).trans HZx.out; have h0 := cl3 hxx 0 (by simp); have h1 := cl3 hxx 1 (by simp); simp only [List.getElem_toArray, List.getElem_cons_succ, List.getElem_cons_zero] at h0 h1; go_simp)
        simp only [List.getElem_toArray, List.getElem_cons_succ, List.getElem_cons_zero, Act.put, List.setIfInBounds_toArray, List.set_cons_zero, List.set_cons_succ]
        refine wpAnyH_take (i := 23) (v := .agg #[.slice ta t.fs.length tc, .int .i64 t.m]) rfl (by kernel_rfl) (by kernel_rfl) (by kernel_rfl) (fun _ _ _ h => h) (Or.inl ⟨by rfl, ?_⟩) (by assumption) ?_
        · (intro w1 hSw; (try dsimp only at hSw); have hxx := (hSw.block _ (Array.getElem?_eq_some_iff.1 HUx.out).1).trans HUx.out; have h0 := cl3 hxx 0 (by simp); have h1 := cl3 hxx 1 (by simp); simp only [List.getElem_toArray, List.getElem_cons_succ, List.getElem_cons_zero] at h0 h1; go_simp)
        simp only [List.getElem_toArray, List.getElem_cons_succ, List.getElem_cons_zero, Act.put, List.setIfInBounds_toArray, List.set_cons_zero, List.set_cons_succ]
        refine wpAnyH_ready (rs := [22]) (by kernel_rfl) (by simp) ?_
        refine AllReadyH.cons (o := _) rfl (fun K hK => ?_) AllReadyH.nil
        go_simp
        refine (HAs.out _ (HSx.out.below HBc.out)).mono ?_
        rintro e wd ⟨rfl, hbd⟩
        have HBd : Hid (Below wx.heap.size wx wd) := HBc.out.trans (hbd.mono HBc.out.size)
        clear hbd
        refine hK.out _ _ ?_ (fun hHeld => ?_)
        · exact HBd.out
        clear hK K
        refine wpAnyH_ready (rs := [24]) (by kernel_rfl) (by simp) ?_
        refine AllReadyH.cons (o := _) rfl (fun K hK => ?_) AllReadyH.nil
        go_simp
        refine (HSa.out _ (HSx.out.below HBd.out) (HTx.out.below HBd.out)).mono ?_
        rintro e wy ⟨rfl, hby⟩
        have HBy : Hid (Below wx.heap.size wx wy) := HBd.out.trans (hby.mono HBd.out.size)
        clear hby
        refine hK.out _ _ ?_ (fun hHeld => ?_)
        · exact HBy.out
        clear hK K
        refine wpAnyH_take (i := 25) (v := .bool true) rfl (by kernel_rfl) (by kernel_rfl) (by kernel_rfl) (fun _ _ _ h => h) (Or.inl ⟨by rfl, ?_⟩) (by assumption) ?_
        · (intro w1 hSw; (try dsimp only at hSw); go_simp)
        simp only [List.getElem_toArray, List.getElem_cons_succ, List.getElem_cons_zero, Act.put, List.setIfInBounds_toArray, List.set_cons_zero, List.set_cons_succ]
        refine wpAnyH_take (i := 26) (v := .bool true) rfl (by kernel_rfl) (by kernel_rfl) (by kernel_rfl) (fun _ _ _ h => h) (Or.inl ⟨by rfl, ?_⟩) (by assumption) ?_
        · (intro w1 hSw; (try dsimp only at hSw); go_simp)
        simp only [List.getElem_toArray, List.getElem_cons_succ, List.getElem_cons_zero, Act.put, List.setIfInBounds_toArray, List.set_cons_zero, List.set_cons_succ]
        refine wpAnyH_take (i := 27) (v := .int .i64 E2) rfl (by kernel_rfl) (by kernel_rfl) (by kernel_rfl) (fun _ _ _ h => h) (Or.inl ⟨by rfl, ?_⟩) (by assumption) ?_
        · (intro w1 hSw; (try dsimp only at hSw); go_simp)
        simp only [List.getElem_toArray, List.getElem_cons_succ, List.getElem_cons_zero, Act.put, List.setIfInBounds_toArray, List.set_cons_zero, List.set_cons_succ]
        refine wpAnyH_take (i := 28) (v := .int .i64 E2) rfl (by kernel_rfl) (by kernel_rfl) (by kernel_rfl) (fun _ _ _ h => h) (Or.inl ⟨by rfl, ?_⟩) (by assumption) ?_
        · (intro w1 hSw; (try dsimp only at hSw); go_simp)
        simp only [List.getElem_toArray, List.getElem_cons_succ, List.getElem_cons_zero, Act.put, List.setIfInBounds_toArray, List.set_cons_zero, List.set_cons_succ]
        refine wpAnyH_take (i := 29) (v := .bool true) rfl (by kernel_rfl) (by kernel_rfl) (by kernel_rfl) (fun _ _ _ h => h) (Or.inl ⟨by rfl, ?_⟩) (by assumption) ?_
        · (intro w1 hSw; (try dsimp only at hSw); go_simp)
        simp only [List.getElem_toArray, List.getElem_cons_succ, List.getElem_cons_zero, Act.put, List.setIfInBounds_toArray, List.set_cons_zero, List.set_cons_succ]
        refine wpAnyH_take (i := 30) (v := .bool true) rfl (by kernel_rfl) (by kernel_rfl) (by kernel_rfl) (fun _ _ _ h => h) (Or.inl ⟨by rfl, ?_⟩) (by assumption) ?_
        · (intro w1 hSw; (try dsimp only at hSw); go_simp)
        simp only [List.getElem_toArray, List.getElem_cons_succ, List.getElem_cons_zero, Act.put, List.setIfInBounds_toArray, List.set_cons_zero, List.set_cons_succ]
        refine wpAnyH_take (i := 31) (v := .bool true) rfl (by kernel_rfl) (by kernel_rfl) (by kernel_rfl) (fun _ _ _ h => h) (Or.inl ⟨by rfl, ?_⟩) (by assumption) ?_
        · (intro w1 hSw; (try dsimp only at hSw); go_simp)
        simp only [List.getElem_toArray, List.getElem_cons_succ, List.getElem_cons_zero, Act.put, List.setIfInBounds_toArray, List.set_cons_zero, List.set_cons_succ]
        refine wpAnyH_done (by kernel_rfl) ?_ _
        refine NoPanic.normal ?_
        go_wp2_with fail
        go_ret
        exact ⟨rfl, HBx.out.trans (HBy.out.mono HBx.out.size)⟩
end Go.Proofs.YtahigmjpeicemaaDoor
