/- WBa, joined. -/
import Derived.Test.YtahigmjpeicemaaGreatDoorBG13
import Derived.Test.YtahigmjpeicemaaGreatDoorBG16
import Derived.Test.YtahigmjpeicemaaGreatDoorBG21
/- The walk of WalBack. -/
namespace Go.Proofs.YtahigmjpeicemaaGreatDoor
open Go.RowKit Go.Shelf

theorem rd_wr {w : World} {r : Rc} (h : RcOk w r) (hr : rightR r.p r.m = true) : rdE (wrB r) = 0 ∧ rdV (wrB r) = (r.p, r.m) ∧ (wrB r).length ≤ 5000 := by
  have e : wrB r = wrR r.p r.m := by unfold wrB; rw [if_pos hr]
  have := rdR_wr hr h.pb
  have hl := wrR_len hr
  unfold rdE rdV
  rw [e, this]
  exact ⟨rfl, rfl, by omega⟩
theorem rd_back {b : List UInt8} (h : rdE b = 0) : rightR (rdV b).1 (rdV b).2 = true ∧ wrR (rdV b).1 (rdV b).2 = b := by
  unfold rdE at h
  cases hd : rdR b with
  | none => rw [hd] at h; simp at h
  | some q =>
    obtain ⟨h1, _, h3⟩ := rdR_some (fs := q.1) (m := q.2) hd
    unfold rdV; rw [hd]; exact ⟨h1, h3⟩
theorem rdE_01 (b : List UInt8) : rdE b = 0 ∨ rdE b = 90 := by
  unfold rdE; split
  · exact .inl rfl
  · exact .inr rfl
theorem num_nm {n m : Int} {ok : Bool} (h : NumP seg (nmF seg n) m ok) : ok = isNo n ∧ (isNo n = true → m = n) := by
  cases hq : isNo n with
  | true =>
    obtain ⟨h1, h2⟩ := isNo_iff.1 hq
    rcases h with ⟨ho, g1, g2, g3⟩ | ⟨ho, _, g⟩
    · exact ⟨ho, fun _ => (nmF_inj h1 h2 g1 g2 g3).symm⟩
    · exact absurd rfl (g n h1 h2)
  | false =>
    rcases h with ⟨ho, g1, g2, g3⟩ | ⟨ho, _, _⟩
    · rw [nmF_no (fun h => by rw [isNo_iff.2 h] at hq; cases hq), nmF_yes g1 g2] at g3
      simp [seg] at g3
    · exact ⟨ho, fun h => by cases h⟩
theorem eq_of {a b : Rc} (h1 : a.p = b.p) (h2 : a.m = b.m) : eqR a b = true := by unfold eqR; exact decide_eq_true ⟨h2, h1⟩
set_option maxRecDepth 100000 in
set_option maxHeartbeats 8000000 in
theorem back_walk (r : Rc) (bv : Value) (b : List UInt8) (n : Int) (W : World) (hr : RcOk W r) (hbr : Reads W bv b) (hT : Tb W) (hE : Er W) :
    Calls Tryz.prog 5 #[r.val, bv, .int .i64 n] W fun e w' => e = .returned (.bool true) ∧ Below W.heap.size W w' := by
  obtain ⟨a, ac, hav, _⟩ := hr.f.form
  obtain ⟨ba, bcp, rfl, hbm⟩ := hbr.form
  have hbm' : (b.length : Int) ≤ 9223372036854775807 := by simp only [maxLen] at hbm; omega
  have HR : Hid (RcOk W r) := hr
  have HBr : Hid (Reads W (.slice ba b.length bcp) b) := hbr
  have HT : Hid (Tb W) := hT
  have HEr : Hid (Er W) := hE
  have er : r.val = .agg #[.slice a r.fs.length ac, .int .i64 r.m] := by unfold Rc.val; rw [hav]
  have HGr : Hid (∀ w, RcOk w r → Calls Tryz.prog 16 #[.agg #[.slice a r.fs.length ac, .int .i64 r.m]] w (GrPost w)) := fun w h => by rw [← er]; exact great_any r w h
  have HWr : Hid (∀ w, RcOk w r → Calls Tryz.prog 26 #[.agg #[.slice a r.fs.length ac, .int .i64 r.m]] w fun e w' => ∃ v, e = .returned (.tuple #[v, .int .i64 (wrE r)]) ∧ Own w' w.heap.size v (wrB r) ∧ Below w.heap.size w w') := fun w h => by rw [← er]; exact walWrite_any r w h
  have HAr : Hid (∀ w, RcOk w r → Calls Tryz.prog 18 #[.agg #[.slice a r.fs.length ac, .int .i64 r.m]] w fun e w' => e = .returned (.agg #[.slice a r.fs.length ac, .int .i64 r.m]) ∧ Below w.heap.size w w') := fun w h => by rw [← er]; exact as_any r w h
  have HSm : Hid (∀ w x, RcOk w x → RcOk w r → Calls Tryz.prog 28 #[x.val, .agg #[.slice a r.fs.length ac, .int .i64 r.m]] w fun e w' => e = .returned (.bool (eqR x r)) ∧ Below w.heap.size w w') := fun w x h1 h2 => by rw [← er]; exact refSame_any x r w h1 h2
  rw [er]
  have HRW : Hid (rightR r.p r.m = true → rdE (wrB r) = 0 ∧ rdV (wrB r) = (r.p, r.m) ∧ (wrB r).length ≤ 5000) := fun h => rd_wr hr h
  clear er hav hr hbr hT hE
  have HB0 : Hid (Below W.heap.size W (W.alloc (.cells #[.slice a r.fs.length ac, .int .i64 r.m] 43))) := (Below.refl _ _).alloc (Nat.le_refl _) _
  have HX0 : Hid ((W.alloc (.cells #[.slice a r.fs.length ac, .int .i64 r.m] 43)).heap[W.heap.size]? = some (.cells #[.slice a r.fs.length ac, .int .i64 r.m] 43)) := World.alloc_heap_new _ _
  go_enter Tryz.func5, Tryz.ntmps5
  go_wp2_with fail
  refine (HGr.out _ (HR.out.below HB0.out)).mono ?_
  rintro e w1 ⟨g, rfl, hb1⟩
  have HB1 : Hid (Below W.heap.size W w1) := HB0.out.trans (hb1.mono (by simp))
  have HX1 : Hid (w1.heap[W.heap.size]? = _) := (hb1.block _ (by simp)).trans HX0.out
  clear hb1 HB0 HX0 HGr
  cases g with
  | true =>
    go_wp2_with fail
    refine (alive12_any _).mono ?_
    rintro e w9 ⟨rfl, hb9⟩
    go_wp2_with fail
    go_ret
    exact ⟨rfl, HB1.out.trans (hb9.mono HB1.out.size)⟩
  | false =>
    by_cases h3 : (3000 : Int) < (b.length : Int)
    · go_wp2_with fail
      refine (alive12_any _).mono ?_
      rintro e w9 ⟨rfl, hb9⟩
      go_wp2_with fail
      go_ret
      exact ⟨rfl, HB1.out.trans (hb9.mono HB1.out.size)⟩
    · have HBL : Hid (b.length ≤ 5000) := by show _ ≤ _; omega
      have x0 := cellW HX1.out 0 (by simp)
      have x1 := cellW HX1.out 1 (by simp)
      simp only [List.getElem_toArray, List.getElem_cons_succ, List.getElem_cons_zero] at x0 x1
      go_wp2_with fail
      refine (HWr.out _ (HR.out.below HB1.out)).mono ?_
      rintro e w2 ⟨va, rfl, hoa, hb2⟩
      have HB2 : Hid (Below W.heap.size W w2) := HB1.out.trans (hb2.mono HB1.out.size)
      have HX2 : Hid (w2.heap[W.heap.size]? = some (.cells #[.slice a r.fs.length ac, .int .i64 r.m] 43)) := (hb2.block _ (Array.getElem?_eq_some_iff.1 HX1.out).1).trans HX1.out
      have HOA : Hid (Reads w2 va (wrB r)) := hoa.reads
      clear hb2 HB1 HX1 HWr x0 x1 hoa
      obtain ⟨E1, HE1⟩ := hid_ex (wrE r)
      rw [← HE1.out]
      by_cases hrr : rightR r.p r.m = true
      · skip
        have hE1 : E1 = 0 := HE1.out.trans (by unfold wrE; rw [if_pos hrr])
        obtain ⟨hr1, hr2, hr3⟩ := HRW.out hrr
        obtain ⟨L, HL⟩ := hid_ex (wrB r)
        rw [← HL.out] at hr1 hr2 hr3 HOA
        have HL3 : Hid (L.length ≤ 5000) := hr3
        have HL2 : Hid (rdV L = (r.p, r.m)) := hr2
        have HL1 : Hid (rdE L = 0) := hr1
        obtain ⟨va', vc, hva, _⟩ := HOA.out.form
        subst hva
        subst hE1
        clear hr1 hr2 hr3 HRW hrr HE1 HL
        go_wp2_with fail
        refine (walRead_any _ L HL3.out w2 HOA.out).mono ?_
        rintro e w3 ⟨hb3, x, rfl, hxok, _, hxp, hxm⟩
        rw [HL1.out]
        have HB3 : Hid (Below W.heap.size W w3) := HB2.out.trans (hb3.mono HB2.out.size)
        have HX3 : Hid (w3.heap[W.heap.size]? = some (.cells #[.slice a r.fs.length ac, .int .i64 r.m] 43)) := (hb3.block _ (Array.getElem?_eq_some_iff.1 HX2.out).1).trans HX2.out
        obtain ⟨xa, xc, hxv, _⟩ := hxok.f.form
        have ex : x.val = .agg #[.slice xa x.fs.length xc, .int .i64 x.m] := by unfold Rc.val; rw [hxv]
        rw [ex]
        have HAx : Hid (∀ w, RcOk w x → Calls Tryz.prog 18 #[.agg #[.slice xa x.fs.length xc, .int .i64 x.m]] w fun e w' => e = .returned (.agg #[.slice xa x.fs.length xc, .int .i64 x.m]) ∧ Below w.heap.size w w') := fun w h => by rw [← ex]; exact as_any x w h
        have HSx : Hid (∀ w, RcOk w x → RcOk w r → Calls Tryz.prog 28 #[.agg #[.slice xa x.fs.length xc, .int .i64 x.m], .agg #[.slice a r.fs.length ac, .int .i64 r.m]] w fun e w' => e = .returned (.bool true) ∧ Below w.heap.size w w') := fun w h1 h2 => by
          have := HSm.out w x h1 h2
          rw [eq_of (a := x) (b := r) (by rw [hxp, HL2.out]) (by rw [hxm, HL2.out]), ex] at this
          exact this
        obtain ⟨W3, HW3⟩ := hid_ex (w3.alloc (.cells #[.slice xa x.fs.length xc, .int .i64 x.m] 43))
        have HXX : Hid (W3.heap[w3.heap.size]? = some (.cells #[.slice xa x.fs.length xc, .int .i64 x.m] 43)) := by rw [HW3.out]; exact World.alloc_heap_new _ _
        have HXR : Hid (W3.heap[W.heap.size]? = some (.cells #[.slice a r.fs.length ac, .int .i64 r.m] 43)) := by rw [HW3.out]; exact (Below.heap_alloc _ _ _ (Array.getElem?_eq_some_iff.1 HX3.out).1).trans HX3.out
        have HBW3 : Hid (Below W.heap.size W W3) := by rw [HW3.out]; exact HB3.out.alloc HB3.out.size _
        have HXo : Hid (RcOk W3 x) := by rw [HW3.out]; exact hxok.below ((Below.refl _ _).alloc (Nat.le_refl _) _)
        clear hb3 hxok hxp hxm hxv ex HSm HX3 HB2 HX2 HOA
        go_wp2_with fail
        rw [← HW3.out]
        refine wp_region_noPanic ?_
        refine wp_region_held_drew (S := (fun w' => Below W3.heap.size W3 w')) (by kernel_rfl) ?_ (fun hHeld => ?_)
        · exact (Below.refl _ _).drew
        refine wpAnyH_take (i := 0) (v := .int .i64 0) rfl (by kernel_rfl) (by kernel_rfl) (by kernel_rfl) (fun _ _ _ h => h) (Or.inl ⟨by rfl, ?_⟩) (by assumption) ?_
        · (intro w1 hSw; (try dsimp only at hSw); go_simp)
        simp only [List.getElem_toArray, List.getElem_cons_zero, Act.put, List.setIfInBounds_toArray, List.set_cons_zero, List.set_cons_succ]
        refine wpAnyH_take (i := 1) (v := .bool false) rfl (by kernel_rfl) (by kernel_rfl) (by kernel_rfl) (fun _ _ _ h => h) (Or.inl ⟨by rfl, ?_⟩) (by assumption) ?_
        · (intro w1 hSw; (try dsimp only at hSw); go_simp)
        simp only [List.getElem_toArray, List.getElem_cons_succ, List.getElem_cons_zero, Act.put, List.setIfInBounds_toArray, List.set_cons_zero, List.set_cons_succ]
        refine wpAnyH_take (i := 2) (v := .bool false) rfl (by kernel_rfl) (by kernel_rfl) (by kernel_rfl) (fun _ _ _ h => h) (Or.inl ⟨by rfl, ?_⟩) (by assumption) ?_
        · (intro w1 hSw; (try dsimp only at hSw); go_simp)
        simp only [List.getElem_toArray, List.getElem_cons_succ, List.getElem_cons_zero, Act.put, List.setIfInBounds_toArray, List.set_cons_zero, List.set_cons_succ]
        refine wpAnyH_take (i := 3) (v := .agg #[.slice xa x.fs.length xc, .int .i64 x.m]) rfl (by kernel_rfl) (by kernel_rfl) (by kernel_rfl) (fun _ _ _ h => h) (Or.inl ⟨by rfl, ?_⟩) (by assumption) ?_
        · (intro w1 hSw; (try dsimp only at hSw); have hxx := (hSw.block _ (Array.getElem?_eq_some_iff.1 HXX.out).1).trans HXX.out; have h0 := cellW hxx 0 (by simp); have h1 := cellW hxx 1 (by simp); simp only [List.getElem_toArray, List.getElem_cons_succ, List.getElem_cons_zero] at h0 h1; go_simp)
        simp only [List.getElem_toArray, List.getElem_cons_succ, List.getElem_cons_zero, Act.put, List.setIfInBounds_toArray, List.set_cons_zero, List.set_cons_succ]
        refine wpAnyH_take (i := 5) (v := .agg #[.slice a r.fs.length ac, .int .i64 r.m]) rfl (by kernel_rfl) (by kernel_rfl) (by kernel_rfl) (fun _ _ _ h => h) (Or.inl ⟨by rfl, ?_⟩) (by assumption) ?_
        · (intro w1 hSw; (try dsimp only at hSw); have hxx := (hSw.block _ (Array.getElem?_eq_some_iff.1 HXR.out).1).trans HXR.out; have h0 := cellW hxx 0 (by simp); have h1 := cellW hxx 1 (by simp); simp only [List.getElem_toArray, List.getElem_cons_succ, List.getElem_cons_zero] at h0 h1; go_simp)
        simp only [List.getElem_toArray, List.getElem_cons_succ, List.getElem_cons_zero, Act.put, List.setIfInBounds_toArray, List.set_cons_zero, List.set_cons_succ]
        refine wpAnyH_ready (rs := [4]) (by kernel_rfl) (by simp) ?_
        refine AllReadyH.cons (o := _) rfl (fun K hK => ?_) AllReadyH.nil
        go_simp
        refine (HAx.out _ (HXo.out.below (Below.refl W3.heap.size W3).drew)).mono ?_
        rintro e w4 ⟨rfl, hb4⟩
        have HB4 : Hid (Below W3.heap.size W3 w4) := (Below.refl W3.heap.size W3).drew.trans hb4
        clear hb4
        refine hK.out _ _ ?_ (fun hHeld => ?_)
        · exact HB4.out
        clear hK K
        refine wpAnyH_ready (rs := [6]) (by kernel_rfl) (by simp) ?_
        refine AllReadyH.cons (o := _) rfl (fun K hK => ?_) AllReadyH.nil
        go_simp
        refine (HAr.out _ ((HR.out.below HBW3.out).below HB4.out)).mono ?_
        rintro e w5 ⟨rfl, hb5⟩
        have HB5 : Hid (Below W3.heap.size W3 w5) := HB4.out.trans (hb5.mono HB4.out.size)
        clear hb5
        refine hK.out _ _ ?_ (fun hHeld => ?_)
        · exact HB5.out
        clear hK K
        refine wpAnyH_ready (rs := [7]) (by kernel_rfl) (by simp) ?_
        refine AllReadyH.cons (o := _) rfl (fun K hK => ?_) AllReadyH.nil
        go_simp
        refine (HSx.out _ (HXo.out.below HB5.out) ((HR.out.below HBW3.out).below HB5.out)).mono ?_
        rintro e wT ⟨rfl, hb6⟩
        have HB6 : Hid (Below W3.heap.size W3 wT) := HB5.out.trans (hb6.mono HB5.out.size)
        have HBT : Hid (Below W.heap.size W wT) := HBW3.out.trans (HB6.out.mono HBW3.out.size)
        clear hb6
        refine hK.out _ _ ?_ (fun hHeld => ?_)
        · exact HB6.out
        clear hK K
        refine wpAnyH_take (i := 8) (v := .bool false) rfl (by kernel_rfl) (by kernel_rfl) (by kernel_rfl) (fun _ _ _ h => h) (Or.inl ⟨by rfl, ?_⟩) (by assumption) ?_
        · (intro w1 hSw; (try dsimp only at hSw); go_simp)
        simp only [List.getElem_toArray, List.getElem_cons_succ, List.getElem_cons_zero, Act.put, List.setIfInBounds_toArray, List.set_cons_zero, List.set_cons_succ]
        refine wpAnyH_take (i := 9) (v := .bool false) rfl (by kernel_rfl) (by kernel_rfl) (by kernel_rfl) (fun _ _ _ h => h) (Or.inl ⟨by rfl, ?_⟩) (by assumption) ?_
        · (intro w1 hSw; (try dsimp only at hSw); go_simp)
        simp only [List.getElem_toArray, List.getElem_cons_succ, List.getElem_cons_zero, Act.put, List.setIfInBounds_toArray, List.set_cons_zero, List.set_cons_succ]
        refine wpAnyH_done (by kernel_rfl) ?_ _
        refine NoPanic.normal ?_
        clear HW3 HXX HXR HBW3 HXo HAx HSx HAr HB4 HB5 HB6 HB3
        go_wp2_with fail
        refine (walRead_any _ b HBL.out wT (HBr.out.below HBT.out)).mono ?_
        rintro e w7 ⟨hb7, y, rfl, hyok, _, hyp, hym⟩
        have HB7 : Hid (Below W.heap.size W w7) := HBT.out.trans (hb7.mono HBT.out.size)
        obtain ⟨ya, yc, hyv, _⟩ := hyok.f.form
        have ey : y.val = .agg #[.slice ya y.fs.length yc, .int .i64 y.m] := by unfold Rc.val; rw [hyv]
        rw [ey]
        have HWy : Hid (∀ w, RcOk w y → Calls Tryz.prog 26 #[.agg #[.slice ya y.fs.length yc, .int .i64 y.m]] w fun e w' => ∃ v, e = .returned (.tuple #[v, .int .i64 (wrE y)]) ∧ Own w' w.heap.size v (wrB y) ∧ Below w.heap.size w w') := fun w h => by rw [← ey]; exact walWrite_any y w h
        have HYok : Hid (RcOk (w7.alloc (.cells #[.slice ya y.fs.length yc, .int .i64 y.m] 43)) y) := hyok.below ((Below.refl _ _).alloc (Nat.le_refl _) _)
        have HYp : Hid (y.p = (rdV b).1) := hyp
        have HYm : Hid (y.m = (rdV b).2) := hym
        obtain ⟨ED, HED⟩ := hid_ex (rdE b)
        rw [← HED.out]
        obtain ⟨E2, HE2⟩ := hid_ex (wrE y)
        rw [← HE2.out] at HWy
        clear hb7 hyok hyv ey hyp hym
        go_wp2_with fail
        refine (HWy.out _ HYok.out).mono ?_
        rintro e w8 ⟨vy, rfl, hoy, hb8⟩
        have HB8 : Hid (Below W.heap.size W w8) := (HB7.out.trans ((Below.refl _ w7).alloc HB7.out.size _)).trans (hb8.mono (by have := HB7.out.size; simp; omega))
        have HOY : Hid (Reads w8 vy (wrB y)) := hoy.reads
        clear hoy hb8 HWy HYok
        obtain ⟨hsl0⟩ : Nonempty Unit := ⟨()⟩
        rcases rdE_01 b with h0 | h0
        · have hED : ED = 0 := HED.out.trans h0
          obtain ⟨hy1, hy2⟩ := rd_back h0
          rw [← HYp.out, ← HYm.out] at hy1 hy2
          have hE2 : E2 = 0 := by rw [HE2.out]; unfold wrE; rw [if_pos hy1]
          have HOY2 : Hid (Reads w8 vy b) := by
            have := HOY.out
            unfold wrB at this
            rw [if_pos hy1, hy2] at this
            exact this
          obtain ⟨vya, vyc, hvy, _⟩ := HOY2.out.form
          subst hvy
          have q0 := reads_text HOY2.out
          have q1 := reads_text (HBr.out.below HB8.out)
          subst hED hE2
          clear h0 hy1 hy2 HOY HED HE2
          clear hsl0
          obtain ⟨NM, HNM⟩ := hid_ex (nmF seg n)
          have HNl : Hid (NM.length ≤ 17) := by rw [HNM.out]; exact nm_len
          go_wp2_with fail
          refine (name_any seg (by decide) n w8 (.inr (HT.out.below HB8.out))).mono ?_
          rintro e w9 ⟨rfl, hb9⟩
          rw [← HNM.out]
          have HB9 : Hid (Below W.heap.size W w9) := HB8.out.trans (hb9.mono HB8.out.size)
          clear hb9
          go_wp2_with fail
          refine (walNumber_any seg NM (by decide) (by have := HNl.out; omega) w9 (HT.out.below HB9.out) (HEr.out.below HB9.out)).mono ?_
          rintro e wa ⟨m, ok, rfl, hnum, hba⟩
          have HBA : Hid (Below W.heap.size W wa) := HB9.out.trans (hba.mono HB9.out.size)
          rw [HNM.out] at hnum
          obtain ⟨hok, hmn⟩ := num_nm hnum
          clear hnum hba HNM HNl
          subst hok
          cases hq : isNo n with
          | false =>
            have hq' : ¬ (1 ≤ n ∧ n ≤ 1099511627776) := fun h => by rw [isNo_iff.2 h] at hq; cases hq
            by_cases h1 : 1 ≤ n
            · have h2 : ¬ n ≤ 1099511627776 := fun h => hq' ⟨h1, h⟩
              have d2 : decide (n ≤ 1099511627776) = false := decide_eq_false h2
              clear hq hq' hmn
              go_wp2_with fail
              refine (alive12_any _).mono ?_
              rintro e wb ⟨rfl, hbb⟩
              go_wp2_with fail
              go_ret
              exact ⟨rfl, HBA.out.trans (hbb.mono HBA.out.size)⟩
            · have d1 : decide (1 ≤ n) = false := decide_eq_false h1
              clear hq hq' hmn
              go_wp2_with fail
              refine (alive12_any _).mono ?_
              rintro e wb ⟨rfl, hbb⟩
              go_wp2_with fail
              go_ret
              exact ⟨rfl, HBA.out.trans (hbb.mono HBA.out.size)⟩
          | true =>
            obtain ⟨h1, h2⟩ := isNo_iff.1 hq
            have hm := hmn hq
            subst hm
            clear hq hmn
            go_wp2_with fail
            refine (alive12_any _).mono ?_
            rintro e wb ⟨rfl, hbb⟩
            go_wp2_with fail
            go_ret
            exact ⟨rfl, HBA.out.trans (hbb.mono HBA.out.size)⟩
        · have hED : ED = 90 := HED.out.trans h0
          subst hED
          clear h0 HOY HED
          clear hsl0
          obtain ⟨NM, HNM⟩ := hid_ex (nmF seg n)
          have HNl : Hid (NM.length ≤ 17) := by rw [HNM.out]; exact nm_len
          go_wp2_with fail
          refine (name_any seg (by decide) n w8 (.inr (HT.out.below HB8.out))).mono ?_
          rintro e w9 ⟨rfl, hb9⟩
          rw [← HNM.out]
          have HB9 : Hid (Below W.heap.size W w9) := HB8.out.trans (hb9.mono HB8.out.size)
          clear hb9
          go_wp2_with fail
          refine (walNumber_any seg NM (by decide) (by have := HNl.out; omega) w9 (HT.out.below HB9.out) (HEr.out.below HB9.out)).mono ?_
          rintro e wa ⟨m, ok, rfl, hnum, hba⟩
          have HBA : Hid (Below W.heap.size W wa) := HB9.out.trans (hba.mono HB9.out.size)
          rw [HNM.out] at hnum
          obtain ⟨hok, hmn⟩ := num_nm hnum
          clear hnum hba HNM HNl
          subst hok
          cases hq : isNo n with
          | false =>
            have hq' : ¬ (1 ≤ n ∧ n ≤ 1099511627776) := fun h => by rw [isNo_iff.2 h] at hq; cases hq
            by_cases h1 : 1 ≤ n
            · have h2 : ¬ n ≤ 1099511627776 := fun h => hq' ⟨h1, h⟩
              have d2 : decide (n ≤ 1099511627776) = false := decide_eq_false h2
              clear hq hq' hmn
              go_wp2_with fail
              refine (alive12_any _).mono ?_
              rintro e wb ⟨rfl, hbb⟩
              go_wp2_with fail
              go_ret
              exact ⟨rfl, HBA.out.trans (hbb.mono HBA.out.size)⟩
            · have d1 : decide (1 ≤ n) = false := decide_eq_false h1
              clear hq hq' hmn
              go_wp2_with fail
              refine (alive12_any _).mono ?_
              rintro e wb ⟨rfl, hbb⟩
              go_wp2_with fail
              go_ret
              exact ⟨rfl, HBA.out.trans (hbb.mono HBA.out.size)⟩
          | true =>
            obtain ⟨h1, h2⟩ := isNo_iff.1 hq
            have hm := hmn hq
            subst hm
            clear hq hmn
            go_wp2_with fail
            refine (alive12_any _).mono ?_
            rintro e wb ⟨rfl, hbb⟩
            go_wp2_with fail
            go_ret
            exact ⟨rfl, HBA.out.trans (hbb.mono HBA.out.size)⟩
      · skip
        have hE1 : E1 = 90 := HE1.out.trans (by unfold wrE; rw [if_neg hrr])
        subst hE1
        clear hrr HE1 HRW HSm HAr HOA HX2
        obtain ⟨wT, HWT⟩ : ∃ wT, Hid (wT = w2) := ⟨w2, rfl⟩
        have HBT : Hid (Below W.heap.size W wT) := by rw [HWT.out]; exact HB2.out
        rw [← HWT.out]
        clear HWT HB2
        go_wp2_with fail
        refine (walRead_any _ b HBL.out wT (HBr.out.below HBT.out)).mono ?_
        rintro e w7 ⟨hb7, y, rfl, hyok, _, hyp, hym⟩
        have HB7 : Hid (Below W.heap.size W w7) := HBT.out.trans (hb7.mono HBT.out.size)
        obtain ⟨ya, yc, hyv, _⟩ := hyok.f.form
        have ey : y.val = .agg #[.slice ya y.fs.length yc, .int .i64 y.m] := by unfold Rc.val; rw [hyv]
        rw [ey]
        have HWy : Hid (∀ w, RcOk w y → Calls Tryz.prog 26 #[.agg #[.slice ya y.fs.length yc, .int .i64 y.m]] w fun e w' => ∃ v, e = .returned (.tuple #[v, .int .i64 (wrE y)]) ∧ Own w' w.heap.size v (wrB y) ∧ Below w.heap.size w w') := fun w h => by rw [← ey]; exact walWrite_any y w h
        have HYok : Hid (RcOk (w7.alloc (.cells #[.slice ya y.fs.length yc, .int .i64 y.m] 43)) y) := hyok.below ((Below.refl _ _).alloc (Nat.le_refl _) _)
        have HYp : Hid (y.p = (rdV b).1) := hyp
        have HYm : Hid (y.m = (rdV b).2) := hym
        obtain ⟨ED, HED⟩ := hid_ex (rdE b)
        rw [← HED.out]
        obtain ⟨E2, HE2⟩ := hid_ex (wrE y)
        rw [← HE2.out] at HWy
        clear hb7 hyok hyv ey hyp hym
        go_wp2_with fail
        refine (HWy.out _ HYok.out).mono ?_
        rintro e w8 ⟨vy, rfl, hoy, hb8⟩
        have HB8 : Hid (Below W.heap.size W w8) := (HB7.out.trans ((Below.refl _ w7).alloc HB7.out.size _)).trans (hb8.mono (by have := HB7.out.size; simp; omega))
        have HOY : Hid (Reads w8 vy (wrB y)) := hoy.reads
        clear hoy hb8 HWy HYok
        obtain ⟨hsl0⟩ : Nonempty Unit := ⟨()⟩
        rcases rdE_01 b with h0 | h0
        · have hED : ED = 0 := HED.out.trans h0
          obtain ⟨hy1, hy2⟩ := rd_back h0
          rw [← HYp.out, ← HYm.out] at hy1 hy2
          have hE2 : E2 = 0 := by rw [HE2.out]; unfold wrE; rw [if_pos hy1]
          have HOY2 : Hid (Reads w8 vy b) := by
            have := HOY.out
            unfold wrB at this
            rw [if_pos hy1, hy2] at this
            exact this
          obtain ⟨vya, vyc, hvy, _⟩ := HOY2.out.form
          subst hvy
          have q0 := reads_text HOY2.out
          have q1 := reads_text (HBr.out.below HB8.out)
          subst hED hE2
          clear h0 hy1 hy2 HOY HED HE2
          clear hsl0
          obtain ⟨NM, HNM⟩ := hid_ex (nmF seg n)
          have HNl : Hid (NM.length ≤ 17) := by rw [HNM.out]; exact nm_len
          go_wp2_with fail
          refine (name_any seg (by decide) n w8 (.inr (HT.out.below HB8.out))).mono ?_
          rintro e w9 ⟨rfl, hb9⟩
          rw [← HNM.out]
          have HB9 : Hid (Below W.heap.size W w9) := HB8.out.trans (hb9.mono HB8.out.size)
          clear hb9
          go_wp2_with fail
          refine (walNumber_any seg NM (by decide) (by have := HNl.out; omega) w9 (HT.out.below HB9.out) (HEr.out.below HB9.out)).mono ?_
          rintro e wa ⟨m, ok, rfl, hnum, hba⟩
          have HBA : Hid (Below W.heap.size W wa) := HB9.out.trans (hba.mono HB9.out.size)
          rw [HNM.out] at hnum
          obtain ⟨hok, hmn⟩ := num_nm hnum
          clear hnum hba HNM HNl
          subst hok
          cases hq : isNo n with
          | false =>
            have hq' : ¬ (1 ≤ n ∧ n ≤ 1099511627776) := fun h => by rw [isNo_iff.2 h] at hq; cases hq
            by_cases h1 : 1 ≤ n
            · have h2 : ¬ n ≤ 1099511627776 := fun h => hq' ⟨h1, h⟩
              have d2 : decide (n ≤ 1099511627776) = false := decide_eq_false h2
              clear hq hq' hmn
              go_wp2_with fail
              refine (alive12_any _).mono ?_
              rintro e wb ⟨rfl, hbb⟩
              go_wp2_with fail
              go_ret
              exact ⟨rfl, HBA.out.trans (hbb.mono HBA.out.size)⟩
            · have d1 : decide (1 ≤ n) = false := decide_eq_false h1
              clear hq hq' hmn
              go_wp2_with fail
              refine (alive12_any _).mono ?_
              rintro e wb ⟨rfl, hbb⟩
              go_wp2_with fail
              go_ret
              exact ⟨rfl, HBA.out.trans (hbb.mono HBA.out.size)⟩
          | true =>
            obtain ⟨h1, h2⟩ := isNo_iff.1 hq
            have hm := hmn hq
            subst hm
            clear hq hmn
            go_wp2_with fail
            refine (alive12_any _).mono ?_
            rintro e wb ⟨rfl, hbb⟩
            go_wp2_with fail
            go_ret
            exact ⟨rfl, HBA.out.trans (hbb.mono HBA.out.size)⟩
        · have hED : ED = 90 := HED.out.trans h0
          subst hED
          clear h0 HOY HED
          clear hsl0
          obtain ⟨NM, HNM⟩ := hid_ex (nmF seg n)
          have HNl : Hid (NM.length ≤ 17) := by rw [HNM.out]; exact nm_len
          go_wp2_with fail
          refine (name_any seg (by decide) n w8 (.inr (HT.out.below HB8.out))).mono ?_
          rintro e w9 ⟨rfl, hb9⟩
          rw [← HNM.out]
          have HB9 : Hid (Below W.heap.size W w9) := HB8.out.trans (hb9.mono HB8.out.size)
          clear hb9
          go_wp2_with fail
          refine (walNumber_any seg NM (by decide) (by have := HNl.out; omega) w9 (HT.out.below HB9.out) (HEr.out.below HB9.out)).mono ?_
          rintro e wa ⟨m, ok, rfl, hnum, hba⟩
          have HBA : Hid (Below W.heap.size W wa) := HB9.out.trans (hba.mono HB9.out.size)
          rw [HNM.out] at hnum
          obtain ⟨hok, hmn⟩ := num_nm hnum
          clear hnum hba HNM HNl
          subst hok
          cases hq : isNo n with
          | false =>
            have hq' : ¬ (1 ≤ n ∧ n ≤ 1099511627776) := fun h => by rw [isNo_iff.2 h] at hq; cases hq
            by_cases h1 : 1 ≤ n
            · have h2 : ¬ n ≤ 1099511627776 := fun h => hq' ⟨h1, h⟩
              have d2 : decide (n ≤ 1099511627776) = false := decide_eq_false h2
              clear hq hq' hmn
              go_wp2_with fail
              refine (alive12_any _).mono ?_
              rintro e wb ⟨rfl, hbb⟩
              go_wp2_with fail
              go_ret
              exact ⟨rfl, HBA.out.trans (hbb.mono HBA.out.size)⟩
            · have d1 : decide (1 ≤ n) = false := decide_eq_false h1
              clear hq hq' hmn
              go_wp2_with fail
              refine (alive12_any _).mono ?_
              rintro e wb ⟨rfl, hbb⟩
              go_wp2_with fail
              go_ret
              exact ⟨rfl, HBA.out.trans (hbb.mono HBA.out.size)⟩
          | true =>
            obtain ⟨h1, h2⟩ := isNo_iff.1 hq
            have hm := hmn hq
            subst hm
            clear hq hmn
            go_wp2_with fail
            refine (alive12_any _).mono ?_
            rintro e wb ⟨rfl, hbb⟩
            go_wp2_with fail
            go_ret
            exact ⟨rfl, HBA.out.trans (hbb.mono HBA.out.size)⟩
end Go.Proofs.YtahigmjpeicemaaGreatDoor
