/- WAp, joined. -/
import Derived.Test.YtahigmjpeicemabDoorAG15
import Derived.Test.YtahigmjpeicemabDoorAG18
/- The walk of WalApart. -/
namespace Go.Proofs.YtahigmjpeicemabDoor
open Go.RowKit Go.Shelf

theorem FcB_p {w : World} {r : Rc} (h : RcOk w r) : ∀ f ∈ r.p, FcB f := h.pb
theorem wr_eq {w : World} {r s : Rc} (hr : RcOk w r) (hs : RcOk w s) (h1 : rightR r.p r.m = true) (h2 : rightR s.p s.m = true) : decide (wrB r = wrB s) = eqR r s := by
  unfold wrB eqR
  rw [if_pos h1, if_pos h2, Bool.eq_iff_iff]
  simp only [decide_eq_true_eq]
  constructor
  · intro h
    obtain ⟨a, b⟩ := wrR_inj h1 hr.pb h2 hs.pb h
    exact ⟨b, a⟩
  · rintro ⟨a, b⟩
    rw [a, b]
theorem wrE_yes {r : Rc} (h : rightR r.p r.m = true) : wrE r = 0 := by unfold wrE; rw [if_pos h]
theorem wrE_no {r : Rc} (h : rightR r.p r.m = false) : wrE r = 90 := by unfold wrE; rw [if_neg (by rw [h]; simp)]
def AlE (W : World) (e : Ending) (w' : World) : Prop := e = .returned (.bool true) ∧ Below W.heap.size W w'
set_option maxRecDepth 100000 in
set_option maxHeartbeats 4000000 in
theorem apart_walk (r s : Rc) (W : World) (hr : RcOk W r) (hs : RcOk W s) :
    Calls Tryd.prog 3 #[r.val, s.val] W fun e w' => e = .returned (.bool true) ∧ Below W.heap.size W w' := by
  obtain ⟨a, ac, hav, _⟩ := hr.f.form
  obtain ⟨b, bcp, hbv, _⟩ := hs.f.form
  have HR : Hid (RcOk W r) := hr
  have HS : Hid (RcOk W s) := hs
  have er : r.val = .agg #[.slice a r.fs.length ac, .int .i64 r.m] := by unfold Rc.val; rw [hav]
  have es : s.val = .agg #[.slice b s.fs.length bcp, .int .i64 s.m] := by unfold Rc.val; rw [hbv]
  have HGr : Hid (∀ w, RcOk w r → Calls Tryd.prog 4 #[.agg #[.slice a r.fs.length ac, .int .i64 r.m]] w (GrPost w)) := fun w h => by rw [← er]; exact great_any r w h
  have HGs : Hid (∀ w, RcOk w s → Calls Tryd.prog 4 #[.agg #[.slice b s.fs.length bcp, .int .i64 s.m]] w (GrPost w)) := fun w h => by rw [← es]; exact great_any s w h
  have HWr : Hid (∀ w, RcOk w r → Calls Tryd.prog 6 #[.agg #[.slice a r.fs.length ac, .int .i64 r.m]] w fun e w' => ∃ v, e = .returned (.tuple #[v, .int .i64 (wrE r)]) ∧ Own w' w.heap.size v (wrB r) ∧ Below w.heap.size w w') := fun w h => by rw [← er]; exact walWrite_any r w h
  have HWs : Hid (∀ w, RcOk w s → Calls Tryd.prog 6 #[.agg #[.slice b s.fs.length bcp, .int .i64 s.m]] w fun e w' => ∃ v, e = .returned (.tuple #[v, .int .i64 (wrE s)]) ∧ Own w' w.heap.size v (wrB s) ∧ Below w.heap.size w w') := fun w h => by rw [← es]; exact walWrite_any s w h
  have HAr : Hid (∀ w, RcOk w r → Calls Tryd.prog 8 #[.agg #[.slice a r.fs.length ac, .int .i64 r.m]] w fun e w' => e = .returned (.agg #[.slice a r.fs.length ac, .int .i64 r.m]) ∧ Below w.heap.size w w') := fun w h => by rw [← er]; exact as_any r w h
  have HAs : Hid (∀ w, RcOk w s → Calls Tryd.prog 8 #[.agg #[.slice b s.fs.length bcp, .int .i64 s.m]] w fun e w' => e = .returned (.agg #[.slice b s.fs.length bcp, .int .i64 s.m]) ∧ Below w.heap.size w w') := fun w h => by rw [← es]; exact as_any s w h
  have HSm : Hid (∀ w, RcOk w r → RcOk w s → Calls Tryd.prog 7 #[.agg #[.slice a r.fs.length ac, .int .i64 r.m], .agg #[.slice b s.fs.length bcp, .int .i64 s.m]] w fun e w' => e = .returned (.bool (eqR r s)) ∧ Below w.heap.size w w') := fun w h1 h2 => by rw [← er, ← es]; exact refSame_any r s w h1 h2
  rw [er, es]
  have HEq : Hid (rightR r.p r.m = true → rightR s.p s.m = true → decide (wrB r = wrB s) = eqR r s) := fun h1 h2 => wr_eq hr hs h1 h2
  clear er es hav hbv hr hs
  have HB0 : Hid (Below W.heap.size W ((W.alloc (.cells #[.slice a r.fs.length ac, .int .i64 r.m] 24)).alloc (.cells #[.slice b s.fs.length bcp, .int .i64 s.m] 24))) := ((Below.refl _ _).alloc (Nat.le_refl _) _).alloc (by simp) _
  have HX0 : Hid (((W.alloc (.cells #[.slice a r.fs.length ac, .int .i64 r.m] 24)).alloc (.cells #[.slice b s.fs.length bcp, .int .i64 s.m] 24)).heap[W.heap.size]? = some (.cells #[.slice a r.fs.length ac, .int .i64 r.m] 24)) := (Below.heap_alloc _ _ _ (by simp)).trans (World.alloc_heap_new _ _)
  have HY0 : Hid (((W.alloc (.cells #[.slice a r.fs.length ac, .int .i64 r.m] 24)).alloc (.cells #[.slice b s.fs.length bcp, .int .i64 s.m] 24)).heap[W.heap.size + 1]? = some (.cells #[.slice b s.fs.length bcp, .int .i64 s.m] 24)) := by
    have := World.alloc_heap_new (W.alloc (.cells #[.slice a r.fs.length ac, .int .i64 r.m] 24)) (.cells #[.slice b s.fs.length bcp, .int .i64 s.m] 24)
    rwa [World.size_alloc] at this
  go_enter Tryd.func3, Tryd.ntmps3
  go_wp2_with fail
  refine (HGr.out _ (HR.out.below HB0.out)).mono ?_
  rintro e w1 ⟨g, rfl, hb1⟩
  have HB1 : Hid (Below W.heap.size W w1) := HB0.out.trans (hb1.mono (by simp; omega))
  have HX1 : Hid (w1.heap[W.heap.size]? = _) := (hb1.block _ (by simp; omega)).trans HX0.out
  have HY1 : Hid (w1.heap[W.heap.size + 1]? = _) := (hb1.block _ (by simp)).trans HY0.out
  clear hb1 HB0 HX0 HY0 HGr
  have y0 := cellW HY1.out 0 (by simp)
  have y1 := cellW HY1.out 1 (by simp)
  simp only [List.getElem_toArray, List.getElem_cons_succ, List.getElem_cons_zero] at y0 y1
  cases g with
  | true =>
    go_wp2_with fail
    refine (alive12_any _).mono ?_
    rintro e w9 ⟨rfl, hb9⟩
    go_wp2_with fail
    go_ret
    exact ⟨rfl, HB1.out.trans (hb9.mono HB1.out.size)⟩
  | false =>
    go_wp2_with fail
    refine (HGs.out _ (HS.out.below HB1.out)).mono ?_
    rintro e w2 ⟨g2, rfl, hb2⟩
    have HB2 : Hid (Below W.heap.size W w2) := HB1.out.trans (hb2.mono HB1.out.size)
    have HX2 : Hid (w2.heap[W.heap.size]? = _) := (hb2.block _ (Array.getElem?_eq_some_iff.1 HX1.out).1).trans HX1.out
    have HY2 : Hid (w2.heap[W.heap.size + 1]? = _) := (hb2.block _ (Array.getElem?_eq_some_iff.1 HY1.out).1).trans HY1.out
    clear hb2 HB1 HX1 HY1 HGs y0 y1
    cases g2 with
    | true =>
      go_wp2_with fail
      refine (alive12_any _).mono ?_
      rintro e w9 ⟨rfl, hb9⟩
      go_wp2_with fail
      go_ret
      exact ⟨rfl, HB2.out.trans (hb9.mono HB2.out.size)⟩
    | false =>
      have x0 := cellW HX2.out 0 (by simp)
      have x1 := cellW HX2.out 1 (by simp)
      simp only [List.getElem_toArray, List.getElem_cons_succ, List.getElem_cons_zero] at x0 x1
      go_wp2_with fail
      refine (HWr.out _ (HR.out.below HB2.out)).mono ?_
      rintro e w3 ⟨va, rfl, hoa, hb3⟩
      have HB3 : Hid (Below W.heap.size W w3) := HB2.out.trans (hb3.mono HB2.out.size)
      have HX3 : Hid (w3.heap[W.heap.size]? = _) := (hb3.block _ (Array.getElem?_eq_some_iff.1 HX2.out).1).trans HX2.out
      have HY3 : Hid (w3.heap[W.heap.size + 1]? = _) := (hb3.block _ (Array.getElem?_eq_some_iff.1 HY2.out).1).trans HY2.out
      have HOA : Hid (Reads w3 va (wrB r)) := hoa.reads
      clear hb3 HB2 HX2 HY2 HWr x0 x1 hoa
      have y0 := cellW HY3.out 0 (by simp)
      have y1 := cellW HY3.out 1 (by simp)
      simp only [List.getElem_toArray, List.getElem_cons_succ, List.getElem_cons_zero] at y0 y1
      go_wp2_with fail
      refine (HWs.out _ (HS.out.below HB3.out)).mono ?_
      rintro e w4 ⟨vb, rfl, hob, hb4⟩
      have HB4 : Hid (Below W.heap.size W w4) := HB3.out.trans (hb4.mono HB3.out.size)
      have HX4 : Hid (w4.heap[W.heap.size]? = some (.cells #[.slice a r.fs.length ac, .int .i64 r.m] 24)) := (hb4.block _ (Array.getElem?_eq_some_iff.1 HX3.out).1).trans HX3.out
      have HY4 : Hid (w4.heap[W.heap.size + 1]? = some (.cells #[.slice b s.fs.length bcp, .int .i64 s.m] 24)) := (hb4.block _ (Array.getElem?_eq_some_iff.1 HY3.out).1).trans HY3.out
      have HOA4 : Hid (Reads w4 va (wrB r)) := HOA.out.below hb4
      have HOB4 : Hid (Reads w4 vb (wrB s)) := hob.reads
      clear hb4 HB3 HX3 HY3 HWs y0 y1 hob HOA
      obtain ⟨E1, HE1⟩ := hid_ex (wrE r)
      obtain ⟨E2, HE2⟩ := hid_ex (wrE s)
      rw [← HE1.out, ← HE2.out]
      by_cases h1 : rightR r.p r.m = true
      · have z1 : E1 = 0 := HE1.out.trans (wrE_yes h1)
        by_cases h2 : rightR s.p s.m = true
        · have z2 : E2 = 0 := HE2.out.trans (wrE_yes h2)
          have HQ : Hid (decide (wrB r = wrB s) = eqR r s) := HEq.out h1 h2
          obtain ⟨L1, HL1⟩ := hid_ex (wrB r)
          obtain ⟨L2, HL2⟩ := hid_ex (wrB s)
          rw [← HL1.out] at HOA4 HQ
          rw [← HL2.out] at HOB4 HQ
          obtain ⟨va', vc, rfl, _⟩ := HOA4.out.form
          obtain ⟨vb', vd, rfl, _⟩ := HOB4.out.form
          obtain ⟨q, Hq⟩ := hid_ex (eqR r s)
          rw [← Hq.out] at HSm HQ
          have HQB : Hid ((L1 == L2) = q) := by unfold Hid; rw [← HQ.out, Bool.eq_iff_iff]; simp
          subst z1 z2
          clear HE1 HE2 HEq HL1 HL2 Hq h1 h2 HQ
          go_wp2_with fail
          refine wp_region_noPanic ?_
          refine wp_region_held_drew (S := (fun w' => Below w4.heap.size w4 w')) (by kernel_rfl) ?_ (fun hHeld => ?_)
          · exact (Below.refl _ _).drew
          refine wpAnyH_ready (rs := [0]) (by kernel_rfl) (by simp) ?_
          refine AllReadyH.cons (o := _) rfl (fun K hK => ?_) AllReadyH.nil
          go_simp
          refine (alive12_any _).mono ?_
          rintro e w5 ⟨rfl, hb5⟩
          have HB5 : Hid (Below w4.heap.size w4 w5) := (Below.refl w4.heap.size w4).drew.trans hb5
          clear hb5
          refine hK.out _ _ ?_ (fun hHeld => ?_)
          · exact HB5.out
          clear hK K
          refine wpAnyH_take (i := 1) (v := .bool true) rfl (by kernel_rfl) (by kernel_rfl) (by kernel_rfl) (fun _ _ _ h => h) (Or.inl ⟨by rfl, ?_⟩) (by assumption) ?_
          · (intro w1 hSw; (try dsimp only at hSw); go_simp)
          simp only [List.getElem_toArray, List.getElem_cons_succ, List.getElem_cons_zero, Act.put, List.setIfInBounds_toArray, List.set_cons_zero, List.set_cons_succ]
          refine wpAnyH_take (i := 2) (v := .slice va' L1.length vc) rfl (by kernel_rfl) (by kernel_rfl) (by kernel_rfl) (fun _ _ _ h => h) (Or.inl ⟨by rfl, ?_⟩) (by assumption) ?_
          · (intro w1 hSw; (try dsimp only at hSw); go_simp)
          simp only [List.getElem_toArray, List.getElem_cons_succ, List.getElem_cons_zero, Act.put, List.setIfInBounds_toArray, List.set_cons_zero, List.set_cons_succ]
          refine wpAnyH_take (i := 3) (v := .string ⟨L1.toArray⟩) rfl (by kernel_rfl) (by kernel_rfl) (by kernel_rfl) (fun _ _ _ h => h) (Or.inl ⟨by rfl, ?_⟩) (by assumption) ?_
          · (intro w1 hSw; (try dsimp only at hSw); have q0 := reads_text (HOA4.out.below hSw); go_simp)
          simp only [List.getElem_toArray, List.getElem_cons_succ, List.getElem_cons_zero, Act.put, List.setIfInBounds_toArray, List.set_cons_zero, List.set_cons_succ]
          refine wpAnyH_take (i := 4) (v := .slice vb' L2.length vd) rfl (by kernel_rfl) (by kernel_rfl) (by kernel_rfl) (fun _ _ _ h => h) (Or.inl ⟨by rfl, ?_⟩) (by assumption) ?_
          · (intro w1 hSw; (try dsimp only at hSw); go_simp)
          simp only [List.getElem_toArray, List.getElem_cons_succ, List.getElem_cons_zero, Act.put, List.setIfInBounds_toArray, List.set_cons_zero, List.set_cons_succ]
          refine wpAnyH_take (i := 5) (v := .string ⟨L2.toArray⟩) rfl (by kernel_rfl) (by kernel_rfl) (by kernel_rfl) (fun _ _ _ h => h) (Or.inl ⟨by rfl, ?_⟩) (by assumption) ?_
          · (intro w1 hSw; (try dsimp only at hSw); have q0 := reads_text (HOB4.out.below hSw); go_simp)
          simp only [List.getElem_toArray, List.getElem_cons_succ, List.getElem_cons_zero, Act.put, List.setIfInBounds_toArray, List.set_cons_zero, List.set_cons_succ]
          refine wpAnyH_take (i := 6) (v := .bool q) rfl (by kernel_rfl) (by kernel_rfl) (by kernel_rfl) (fun _ _ _ h => h) (Or.inl ⟨by rfl, ?_⟩) (by assumption) ?_
          · (intro w1 hSw; (try dsimp only at hSw); go_simp; exact HQB.out)
          simp only [List.getElem_toArray, List.getElem_cons_succ, List.getElem_cons_zero, Act.put, List.setIfInBounds_toArray, List.set_cons_zero, List.set_cons_succ]
          refine wpAnyH_take (i := 7) (v := .agg #[.slice a r.fs.length ac, .int .i64 r.m]) rfl (by kernel_rfl) (by kernel_rfl) (by kernel_rfl) (fun _ _ _ h => h) (Or.inl ⟨by rfl, ?_⟩) (by assumption) ?_
          · (intro w1 hSw; (try dsimp only at hSw); have hxx := (hSw.block _ (Array.getElem?_eq_some_iff.1 HX4.out).1).trans HX4.out; have h0 := cellW hxx 0 (by simp); have h1 := cellW hxx 1 (by simp); simp only [List.getElem_toArray, List.getElem_cons_succ, List.getElem_cons_zero] at h0 h1; go_simp)
          simp only [List.getElem_toArray, List.getElem_cons_succ, List.getElem_cons_zero, Act.put, List.setIfInBounds_toArray, List.set_cons_zero, List.set_cons_succ]
          refine wpAnyH_take (i := 9) (v := .agg #[.slice b s.fs.length bcp, .int .i64 s.m]) rfl (by kernel_rfl) (by kernel_rfl) (by kernel_rfl) (fun _ _ _ h => h) (Or.inl ⟨by rfl, ?_⟩) (by assumption) ?_
          · (intro w1 hSw; (try dsimp only at hSw); have hxx := (hSw.block _ (Array.getElem?_eq_some_iff.1 HY4.out).1).trans HY4.out; have h0 := cellW hxx 0 (by simp); have h1 := cellW hxx 1 (by simp); simp only [List.getElem_toArray, List.getElem_cons_succ, List.getElem_cons_zero] at h0 h1; go_simp)
          simp only [List.getElem_toArray, List.getElem_cons_succ, List.getElem_cons_zero, Act.put, List.setIfInBounds_toArray, List.set_cons_zero, List.set_cons_succ]
          refine wpAnyH_ready (rs := [8]) (by kernel_rfl) (by simp) ?_
          refine AllReadyH.cons (o := _) rfl (fun K hK => ?_) AllReadyH.nil
          go_simp
          refine (HAr.out _ ((HR.out.below HB4.out).below HB5.out)).mono ?_
          rintro e w6 ⟨rfl, hb6⟩
          have HB6 : Hid (Below w4.heap.size w4 w6) := HB5.out.trans (hb6.mono HB5.out.size)
          clear hb6
          refine hK.out _ _ ?_ (fun hHeld => ?_)
          · exact HB6.out
          clear hK K
          refine wpAnyH_ready (rs := [10]) (by kernel_rfl) (by simp) ?_
          refine AllReadyH.cons (o := _) rfl (fun K hK => ?_) AllReadyH.nil
          go_simp
          refine (HAs.out _ ((HS.out.below HB4.out).below HB6.out)).mono ?_
          rintro e w7 ⟨rfl, hb7⟩
          have HB7 : Hid (Below w4.heap.size w4 w7) := HB6.out.trans (hb7.mono HB6.out.size)
          clear hb7
          refine hK.out _ _ ?_ (fun hHeld => ?_)
          · exact HB7.out
          clear hK K
          refine wpAnyH_ready (rs := [11]) (by kernel_rfl) (by simp) ?_
          refine AllReadyH.cons (o := _) rfl (fun K hK => ?_) AllReadyH.nil
          go_simp
          refine (HSm.out _ ((HR.out.below HB4.out).below HB7.out) ((HS.out.below HB4.out).below HB7.out)).mono ?_
          rintro e w8 ⟨rfl, hb8⟩
          have HB8 : Hid (Below w4.heap.size w4 w8) := HB7.out.trans (hb8.mono HB7.out.size)
          clear hb8
          refine hK.out _ _ ?_ (fun hHeld => ?_)
          · exact HB8.out
          clear hK K
          refine wpAnyH_take (i := 12) (v := .bool true) rfl (by kernel_rfl) (by kernel_rfl) (by kernel_rfl) (fun _ _ _ h => h) (Or.inl ⟨by rfl, ?_⟩) (by assumption) ?_
          · (intro w1 hSw; (try dsimp only at hSw); go_simp)
          simp only [List.getElem_toArray, List.getElem_cons_succ, List.getElem_cons_zero, Act.put, List.setIfInBounds_toArray, List.set_cons_zero, List.set_cons_succ]
          refine wpAnyH_take (i := 13) (v := .bool true) rfl (by kernel_rfl) (by kernel_rfl) (by kernel_rfl) (fun _ _ _ h => h) (Or.inl ⟨by rfl, ?_⟩) (by assumption) ?_
          · (intro w1 hSw; (try dsimp only at hSw); go_simp)
          simp only [List.getElem_toArray, List.getElem_cons_succ, List.getElem_cons_zero, Act.put, List.setIfInBounds_toArray, List.set_cons_zero, List.set_cons_succ]
          refine wpAnyH_take (i := 14) (v := .bool true) rfl (by kernel_rfl) (by kernel_rfl) (by kernel_rfl) (fun _ _ _ h => h) (Or.inl ⟨by rfl, ?_⟩) (by assumption) ?_
          · (intro w1 hSw; (try dsimp only at hSw); go_simp)
          simp only [List.getElem_toArray, List.getElem_cons_succ, List.getElem_cons_zero, Act.put, List.setIfInBounds_toArray, List.set_cons_zero, List.set_cons_succ]
          refine wpAnyH_done (by kernel_rfl) ?_ _
          refine NoPanic.normal ?_
          go_wp2_with fail
          go_ret
          exact ⟨rfl, HB4.out.trans (HB8.out.mono HB4.out.size)⟩
        · have z2 : E2 = 90 := HE2.out.trans (wrE_no (by simpa using h2))
          subst z1 z2
          go_wp2_with fail
          refine (alive12_any _).mono ?_
          rintro e w9 ⟨rfl, hb9⟩
          go_wp2_with fail
          go_ret
          exact ⟨rfl, HB4.out.trans (hb9.mono HB4.out.size)⟩
      · have z1 : E1 = 90 := HE1.out.trans (wrE_no (by simpa using h1))
        subst z1
        go_wp2_with fail
        refine (alive12_any _).mono ?_
        rintro e w9 ⟨rfl, hb9⟩
        go_wp2_with fail
        go_ret
        exact ⟨rfl, HB4.out.trans (hb9.mono HB4.out.size)⟩
end Go.Proofs.YtahigmjpeicemabDoor
