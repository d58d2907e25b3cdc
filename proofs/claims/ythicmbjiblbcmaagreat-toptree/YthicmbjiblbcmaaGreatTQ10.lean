/- MG4, joined. -/
import Derived.Test.YthicmbjiblbcmaaGreatTQ9
/- A part sinks. -/
namespace Go.Proofs.YthicmbjiblbcmaaGreat
open Go.RowKit

/-- What calls on a heap leave alone: what lies below, what was made behind it, and all bytes. -/
structure Fr (lo hh : Nat) (A B : World) : Prop where
  b : Below lo A B
  h : ∀ k, hh ≤ k → k < A.heap.size → B.heap[k]? = A.heap[k]?
  u : ∀ (k : Nat) (cs : Array Value) (fr : Nat × Nat), A.heap[k]? = some (Obj.cells cs 5 fr) → B.heap[k]? = some (Obj.cells cs 5 fr)
theorem Fr.refl (lo hh : Nat) (A : World) : Fr lo hh A A := ⟨Below.refl _ _, fun _ _ _ => rfl, fun _ _ _ h => h⟩
theorem Fr.trans {lo hh : Nat} {A B C : World} (h : Fr lo hh A B) (k : Fr lo hh B C) : Fr lo hh A C :=
  ⟨h.b.trans k.b, fun i h1 h2 => (k.h i h1 (Nat.lt_of_lt_of_le h2 h.b.size)).trans (h.h i h1 h2), fun i cs fr q => k.u i cs fr (h.u i cs fr q)⟩
theorem Fr.of_below {lo hh : Nat} {A B : World} (h : Below A.heap.size A B) (hl : lo ≤ A.heap.size) : Fr lo hh A B :=
  ⟨h.mono hl, fun k _ hk => h.block k hk, fun k _ _ q => (h.block k (Array.getElem?_eq_some_iff.1 q).1).trans q⟩
theorem Fr.own {lo hh base : Nat} {A B : World} {v : Value} {l : List UInt8} (h : Fr lo hh A B) (ho : Own A base v l) : Own B base v l := own_kp ho h.u
/-- One part is stored. -/
def setP (w : World) (gp t : Nat) (p : Pt) : World := (w.setCell ⟨gp, t * 2, none⟩ (lv p)).setCell ⟨gp, t * 2 + 1, none⟩ (.int .i64 (p.r : Int))
theorem flat2_set : ∀ (P : List Pt) (t : Nat) (p : Pt), t < P.length → ((P.flatMap p2).set (t * 2) (lv p)).set (t * 2 + 1) (.int .i64 (p.r : Int)) = (P.set t p).flatMap p2
  | [], t, p, h => by simp at h
  | x :: P, 0, p, _ => by
    rw [List.flatMap_cons, List.set_cons_zero, List.flatMap_cons]
    rfl
  | x :: P, t + 1, p, h => by
    have ih := flat2_set P t p (by simpa using h)
    rw [List.flatMap_cons, List.set_cons_succ, List.flatMap_cons, ← ih, show (t + 1) * 2 + 1 = t * 2 + 1 + 2 by omega, show (t + 1) * 2 = t * 2 + 2 by omega]
    rfl
theorem row_setP {w : World} {lo gp n cap t : Nat} {P : List Pt} (h : w.ownsRow lo 115 2 (.slice (some ⟨gp, 0, none⟩) n cap) n (P.flatMap p2)) (ht : t < P.length) (p : Pt) :
    (setP w gp t p).ownsRow lo 115 2 (.slice (some ⟨gp, 0, none⟩) n cap) n ((P.set t p).flatMap p2) := by
  have h1 := (World.ownsRow.stored h (t * 2) (lv p)).1
  have h2 := (World.ownsRow.stored h1 (t * 2 + 1) (.int .i64 (p.r : Int))).1
  rw [flat2_set P t p ht] at h2
  exact h2
theorem setP_other (w : World) (gp t : Nat) (p : Pt) (k : Nat) (h : k ≠ gp) : (setP w gp t p).heap[k]? = w.heap[k]? := by
  unfold setP
  rw [Below.heap_setCell _ _ _ _ h, Below.heap_setCell _ _ _ _ h]
theorem setP_below {w : World} {gp t lo : Nat} {p : Pt} (h : lo ≤ gp) : Below lo w (setP w gp t p) := by
  unfold setP
  exact ((Below.refl _ _).setCell h _).setCell h _
theorem PtOk.other {A B : World} {lo hh gp : Nat} {p : Pt} (h : PtOk A lo hh p) (hk : ∀ k, k ≠ gp → B.heap[k]? = A.heap[k]?) {cs : Array Value} {T : TypeId} {fr : Nat × Nat} (hgp : A.heap[gp]? = some (.cells cs T fr)) (hT : T ≠ 56) (hU : T ≠ 5) : PtOk B lo hh p := by
  obtain ⟨cur, h1, h2⟩ := h.ce
  have hne : ∀ (k : Nat) (cs' : Array Value) (T' : TypeId) (fr' : Nat × Nat), T' ≠ T → A.heap[k]? = some (.cells cs' T' fr') → k ≠ gp := by
    rintro k cs' T' fr' hT' hk' rfl
    rw [hgp] at hk'
    simp at hk'
    exact hT' hk'.2.1.symm
  exact ⟨h.g1, h.g2, h.n1, h.n2, h.n3, ⟨cur, (hk _ (hne _ _ _ _ (Ne.symm hT) h1)).trans h1, h2⟩, fun x hx => own_kp (h.ky x hx) (fun k cs' fr' q => (hk _ (hne _ _ _ _ (Ne.symm hU) q)).trans q)⟩
theorem HM.swap {w : World} {lo hh h gp cap : Nat} {P : List Pt} (H : HM w lo hh h P) (hv : w.heap[h]? = some (.cells #[.slice (some ⟨gp, 0, none⟩) P.length cap] 112)) (hrow : w.ownsRow lo 115 2 (.slice (some ⟨gp, 0, none⟩) P.length cap) P.length (P.flatMap p2))
    {t b : Nat} (ht : t < P.length) (hb : b < P.length) (hgl : lo ≤ gp) (hgh : gp < hh) :
    HM (setP (setP w gp t (P.getD b ptZ)) gp b (P.getD t ptZ)) lo hh h (swp ptZ P t b) ∧ Fr lo hh w (setP (setP w gp t (P.getD b ptZ)) gp b (P.getD t ptZ)) := by
  obtain ⟨cur, hcur⟩ : ∃ cur, w.heap[gp]? = some (.cells cur 115) := by
    rcases hrow.2 with ⟨q, _⟩ | ⟨g, c, cur, q, _, hw, _⟩
    · simp at q
    · simp at q
      obtain ⟨rfl, _⟩ := q
      exact ⟨cur, hw⟩
  have hoth : ∀ k, k ≠ gp → (setP (setP w gp t (P.getD b ptZ)) gp b (P.getD t ptZ)).heap[k]? = w.heap[k]? := fun k hk => by rw [setP_other _ _ _ _ _ hk, setP_other _ _ _ _ _ hk]
  have hne : h ≠ gp := by
    rintro rfl
    rw [hv] at hcur
    simp at hcur
  have r1 := row_setP (row_setP hrow ht (P.getD b ptZ)) (t := b) (by simpa using hb) (P.getD t ptZ)
  refine ⟨⟨H.h1, H.h2, ⟨.slice (some ⟨gp, 0, none⟩) P.length cap, (hoth h hne).trans hv, by rw [swp_len]; exact r1, fun k hk => by simp [Value.ownBlock] at hk; omega⟩, fun p hp => ?_, ?_, by rw [swp_len]; exact H.le⟩, ?_⟩
  · exact (H.pt p ((swp_perm ptZ ht hb).mem_iff.1 hp)).other hoth hcur (by decide) (by decide)
  · exact ((swp_perm ptZ ht hb).map Pt.g).nodup_iff.2 H.nd
  · refine ⟨(setP_below hgl).trans (setP_below hgl), fun k hk _ => hoth k (by omega), fun k cs fr q => (hoth k ?_).trans q⟩
    rintro rfl
    rw [hcur] at q
    simp at q
theorem ahead_int (lo hh h Bx : Nat) (P : List Pt) (i j : Nat) (iv jv : Int) (hi : iv = (i : Int)) (hjv : jv = (j : Int)) (w : World) (H : HM w lo hh h P) (hB : w.cell? ⟨Bx, 0, none⟩ = some (.pointer (some ⟨h, 0, none⟩))) (hj : i < P.length → j < P.length) :
    Calls Tryz.prog 73 #[.int .i64 iv, .int .i64 jv, .pointer (some ⟨Bx, 0, none⟩)] w (AhPost P i j w) := by
  subst hi hjv; exact ahead_any lo hh h Bx P i j w H hB hj
theorem lePt_asymm (x y : Pt) (h : lePt x y) : ¬ lePt y x := ltT_asymm h
def SkPost (lo hh h : Nat) (P : List Pt) (s : Nat) (w : World) (e : Ending) (w' : World) : Prop := (∃ v, e = .returned v) ∧ ∃ P', HM w' lo hh h P' ∧ P'.Perm P ∧ HQ lePt ptZ P' s ∧ Fr lo hh w w'
set_option maxRecDepth 100000 in
set_option maxHeartbeats 4000000 in
theorem sink_any (lo hh h : Nat) (P : List Pt) (s : Nat) (hs : s ≤ 100000) (w : World) (H : HM w lo hh h P) (hsz : hh ≤ w.heap.size) (hq : HQ lePt ptZ P (s + 1)) :
    Calls Tryz.prog 44 #[.pointer (some ⟨h, 0, none⟩), .int .i64 (s : Int)] w (SkPost lo hh h P s w) := by
  have hlo : lo ≤ w.heap.size := by have := H.h1; have := H.h2; omega
  have HM0 : Hid (HM (w.alloc (.cells #[.pointer (some ⟨h, 0, none⟩)] 82)) lo hh h P) := H.below ((Below.refl _ _).alloc (Nat.le_refl _) _)
  have HF0 : Hid (Fr lo hh w (w.alloc (.cells #[.pointer (some ⟨h, 0, none⟩)] 82))) := Fr.of_below ((Below.refl _ _).alloc (Nat.le_refl _) _) hlo
  have HB0 : Hid ((w.alloc (.cells #[.pointer (some ⟨h, 0, none⟩)] 82)).heap[w.heap.size]? = some (.cells #[.pointer (some ⟨h, 0, none⟩)] 82)) := heap_alloc_new _ _
  have HQ0 : Hid (HI lePt ptZ P s s) := HI.start hq
  have hle := H.le
  clear H hq
  go_enter Tryz.func44, Tryz.ntmps44
  go_wp2_with fail
  go_step3
  go_wp2_with fail
  go_step3
  go_wp2_with fail
  go_loopw [1] (fun a wr => ∃ (t : Nat) (P' : List Pt), t ≤ 100000 ∧ a = .int .i64 (t : Int) ∧ Hid (HM wr lo hh h P') ∧ Hid (P'.Perm P) ∧ Hid (HI lePt ptZ P' s t) ∧ Hid (Fr lo hh w wr) ∧ Hid (wr.heap[w.heap.size]? = some (.cells #[.pointer (some ⟨h, 0, none⟩)] 82))) (fun a _ => P.length - (intOf a).toNat)
  case atStart => exact ⟨s, P, hs, rfl, HM0, List.Perm.refl _, HQ0, HF0, HB0⟩
  case round =>
    obtain ⟨t, P', ht, rfl, HMr, HP, HIr, HF, HB⟩ := hrel
    clear HM0 HF0 HB0 HQ0
    have HLn : Hid (P'.length = P.length) := HP.out.length_eq
    have hle' : P'.length ≤ 100000 := by rw [HLn.out]; exact hle
    have hcb := (cell_row HB.out 0 (by simp)).1
    simp only [List.getElem_toArray, List.getElem_cons_zero] at hcb
    have HCB : Hid _ := hcb
    go_wp2_with fail
    refine (ahead_int lo hh h _ P' (2 * t + 2) (2 * t + 1) _ _ (by omega) (by omega) _ HMr.out HCB.out (by omega)).mono ?_
    rintro e w1 ⟨b1, rfl, hb1, hbl1⟩
    have HM1 : Hid (HM w1 lo hh h P') := HMr.out.below hbl1
    have HF1 : Hid (Fr lo hh w w1) := HF.out.trans (Fr.of_below hbl1 (Nat.le_trans hlo HF.out.b.size))
    have HB1 : Hid (w1.heap[w.heap.size]? = some (.cells #[.pointer (some ⟨h, 0, none⟩)] 82)) := (hbl1.block _ (Array.getElem?_eq_some_iff.1 HB.out).1).trans HB.out
    have hcb1 := (cell_row HB1.out 0 (by simp)).1
    simp only [List.getElem_toArray, List.getElem_cons_zero] at hcb1
    have HCB1 : Hid _ := hcb1
    have Hb1 : Hid _ := hb1
    clear HMr HF HB HCB hcb hbl1 hb1 hcb1
    cases b1 with
    | true =>
      go_wp2_with fail
      refine (ahead_int lo hh h _ P' (2 * t + 2) t _ _ (by omega) (by omega) _ HM1.out HCB1.out (by omega)).mono ?_
      rintro e w2 ⟨b2, rfl, hb2, hbl2⟩
      have HM2 : Hid (HM w2 lo hh h P') := HM1.out.below hbl2
      have HF2 : Hid (Fr lo hh w w2) := HF1.out.trans (Fr.of_below hbl2 (Nat.le_trans hlo HF1.out.b.size))
      have HB2 : Hid (w2.heap[w.heap.size]? = some (.cells #[.pointer (some ⟨h, 0, none⟩)] 82)) := (hbl2.block _ (Array.getElem?_eq_some_iff.1 HB1.out).1).trans HB1.out
      have hcb2 := (cell_row HB2.out 0 (by simp)).1
      simp only [List.getElem_toArray, List.getElem_cons_zero] at hcb2
      have HCB2 : Hid _ := hcb2
      have Hb2 : Hid _ := hb2
      clear HM1 HF1 HB1 HCB1 hbl2 hb2 hcb2
      cases b2 with
      | false =>
        go_wp2_with fail
        refine (ahead_int lo hh h _ P' (2 * t + 1) t _ _ (by omega) (by omega) _ HM2.out HCB2.out (by omega)).mono ?_
        rintro e w3 ⟨b3, rfl, hb3, hbl3⟩
        have HM3 : Hid (HM w3 lo hh h P') := HM2.out.below hbl3
        have HF3 : Hid (Fr lo hh w w3) := HF2.out.trans (Fr.of_below hbl3 (Nat.le_trans hlo HF2.out.b.size))
        have HB3 : Hid (w3.heap[w.heap.size]? = some (.cells #[.pointer (some ⟨h, 0, none⟩)] 82)) := (hbl3.block _ (Array.getElem?_eq_some_iff.1 HB2.out).1).trans HB2.out
        have hcb3 := (cell_row HB3.out 0 (by simp)).1
        simp only [List.getElem_toArray, List.getElem_cons_zero] at hcb3
        have HCB3 : Hid _ := hcb3
        have Hb3 : Hid _ := hb3
        clear HM2 HF2 HB2 HCB2 hbl3 hb3 hcb3
        cases b3 with
        | false =>
          have HSP : Hid (HQ lePt ptZ P' s) := HIr.out.stop (fun c h1 h2 h3 => by
            have hc : c = 2 * t + 1 ∨ c = 2 * t + 2 := by omega
            rcases hc with rfl | rfl
            · exact fun h4 => by cases (Hb3.out.2 ⟨h1, h4⟩)
            · exact fun h4 => by cases (Hb2.out.2 ⟨h1, h4⟩))
          go_wp2_with fail
          refine bodyPost_end (results_none rfl _ _ _) rfl ?_
          exact ⟨⟨_, rfl⟩, P', HM3.out, HP.out, HSP.out, HF3.out⟩
        | true =>
          exfalso
          have q1 := (Hb1.out.1 (by trivial))
          have q3 := (Hb3.out.1 (by trivial))
          cases (Hb2.out.2 ⟨q1.1, ltT_trans q1.2 q3.2⟩)
      | true =>
        obtain ⟨b, Hb⟩ := hid_ex (2 * t + 2)
        have hbv : 2 * (t : Int) + 1 + 1 = (b : Int) := by rw [Hb.out]; omega
        have hlb : b < P'.length := by rw [Hb.out]; exact (Hb2.out.1 (by trivial)).1
        have HLT : Hid (lePt (P'.getD b ptZ) (P'.getD t ptZ)) := by rw [Hb.out]; exact (Hb2.out.1 (by trivial)).2
        have HSB : Hid (∀ c, c < P'.length → (c = 2 * t + 1 ∨ c = 2 * t + 2) → c ≠ b → ¬ lePt (P'.getD c ptZ) (P'.getD b ptZ)) := by
          rw [Hb.out]
          intro c h1 h2 h3 h4
          have e : c = 2 * t + 1 := by omega
          subst e
          exact lePt_asymm _ _ h4 (Hb1.out.1 (by trivial)).2
        have htb : t < b ∧ (b = 2 * t + 1 ∨ b = 2 * t + 2) := by rw [Hb.out]; omega
        obtain ⟨a, cap, e1, e2, e3, e4, e5⟩ := HM2.out.arr
        obtain ⟨gp, rfl, g1, g2, g3, g4⟩ := e5 (by omega)
        have x0 := (cell_row HB2.out 0 (by simp)).1
        have x1 := (cell_row e1 0 (by simp)).1
        simp only [List.getElem_toArray, List.getElem_cons_zero] at x0 x1
        obtain ⟨y0, y1, y2, y3⟩ := g4 t (by omega)
        obtain ⟨z0, z1, z2, z3⟩ := g4 b hlb
        have HPT : Hid (P'.getD t ptZ = P'[t]'(by omega)) := getD_get _ _
        have HPB : Hid (P'.getD b ptZ = P'[b]) := getD_get _ _
        have hneh : h ≠ gp := by
          rintro rfl
          rcases e2.2 with ⟨q, _⟩ | ⟨g, c, cur, q, _, hw, _⟩
          · simp at q
          · simp at q
            obtain ⟨rfl, _⟩ := q
            rw [e1] at hw
            simp at hw
        have hnew : w.heap.size ≠ gp := by
          omega
        have hlt : t < P'.length := by omega
        unfold lv at y0 z0
        generalize P'[t]'(by omega) = p at *
        generalize P'[b] = q at *
        obtain ⟨pg, po, pc, pxs, pr⟩ := p
        obtain ⟨qg, qo, qc, qxs, qr⟩ := q
        simp only at y0 y1 z0 z1
        unfold maxLen at e4
        have u0 : ((w2.setCell ⟨gp, t * 2, none⟩ (.slice (some ⟨qg, qo, none⟩) qxs.length qc)).setCell ⟨gp, t * 2 + 1, none⟩ (.int .i64 (qr : Int))).cell? ⟨gp, b * 2, none⟩ = some (.slice (some ⟨qg, qo, none⟩) qxs.length qc) := by rw [World.cell?_setCell_other _ _ _ _ (by first | (simp; done) | (simp; omega)), World.cell?_setCell_other _ _ _ _ (by first | (simp; done) | (simp; omega))]; exact z0
        have u1 : ((w2.setCell ⟨gp, t * 2, none⟩ (.slice (some ⟨qg, qo, none⟩) qxs.length qc)).setCell ⟨gp, t * 2 + 1, none⟩ (.int .i64 (qr : Int))).cell? ⟨gp, b * 2 + 1, none⟩ = some (.int .i64 (qr : Int)) := by rw [World.cell?_setCell_other _ _ _ _ (by first | (simp; done) | (simp; omega)), World.cell?_setCell_other _ _ _ _ (by first | (simp; done) | (simp; omega))]; exact z1
        have v0 : ((w2.setCell ⟨gp, t * 2, none⟩ (.slice (some ⟨qg, qo, none⟩) qxs.length qc)).setCell ⟨gp, t * 2 + 1, none⟩ (.int .i64 (qr : Int))).cell? ⟨w.heap.size, 0, none⟩ = some (.pointer (some ⟨h, 0, none⟩)) := by rw [World.cell?_setCell_other _ _ _ _ (by first | (simp; done) | (simp; omega)), World.cell?_setCell_other _ _ _ _ (by first | (simp; done) | (simp; omega))]; exact x0
        have v1 : ((w2.setCell ⟨gp, t * 2, none⟩ (.slice (some ⟨qg, qo, none⟩) qxs.length qc)).setCell ⟨gp, t * 2 + 1, none⟩ (.int .i64 (qr : Int))).cell? ⟨h, 0, none⟩ = some (.slice (some ⟨gp, 0, none⟩) P'.length cap) := by rw [World.cell?_setCell_other _ _ _ _ (by first | (simp; done) | (simp [hneh.symm]; done)), World.cell?_setCell_other _ _ _ _ (by first | (simp; done) | (simp [hneh.symm]; done))]; exact x1
        have V0 : Hid _ := v0
        have V1 : Hid _ := v1
        clear v0 v1
        have E1 : Hid _ := e1
        have E2 : Hid _ := e2
        have HW : Hid (HM (setP (setP w2 gp t ⟨qg, qo, qc, qxs, qr⟩) gp b ⟨pg, po, pc, pxs, pr⟩) lo hh h (swp ptZ P' t b) ∧ Fr lo hh w2 (setP (setP w2 gp t ⟨qg, qo, qc, qxs, qr⟩) gp b ⟨pg, po, pc, pxs, pr⟩)) := by
          have := HM.swap HM2.out e1 e2 (t := t) (b := b) (by omega) hlb g1 g2
          rw [HPT.out, HPB.out] at this
          exact this
        clear e1 e2 e5 g4
        go_wp2_with fail
        have hfz : ∀ i, w2.frozen? ⟨gp, i, none⟩ = false := fun i => World.ownsRow.frozenAt E2.out i
        refine wp_region_noPanic ?_
        refine wp_region_S 25 (fun w' => w'.cell? ⟨w.heap.size, 0, none⟩ = some (.pointer (some ⟨h, 0, none⟩)) ∧ w'.cell? ⟨h, 0, none⟩ = some (.slice (some ⟨gp, 0, none⟩) P'.length cap)) (fun w' => w'.cell? ⟨gp, t * 2, none⟩ = some (.slice (some ⟨pg, po, none⟩) pxs.length pc) ∧ w'.cell? ⟨gp, t * 2 + 1, none⟩ = some (.int .i64 (pr : Int)) ∧ w'.cell? ⟨gp, b * 2, none⟩ = some (.slice (some ⟨qg, qo, none⟩) qxs.length qc) ∧ w'.cell? ⟨gp, b * 2 + 1, none⟩ = some (.int .i64 (qr : Int))) (by kernel_rfl) ?_ ?_ (fun hHeld => ?_)
        · exact ⟨x0, x1⟩
        · exact ⟨y0, y1, z0, z1⟩
        refine wpAnyS_take (i := 0) (v := .pointer (some ⟨h, 0, none⟩)) _ rfl (by kernel_rfl) (by kernel_rfl) (by kernel_rfl) (by kernel_rfl) (by kernel_rfl) rfl (fun _ _ _ h => h) (Or.inl ⟨by rfl, ?_⟩) hHeld (fun hHeld => ?_)
        · (intro w1 hSw; have hSw := hSw.1; (try dsimp only at hSw); go_simp)
        simp only [List.getElem_toArray, List.getElem_cons_zero, Act.put, List.setIfInBounds_toArray, List.set_cons_zero, List.set_cons_succ]
        refine wpAnyS_take (i := 1) (v := .pointer (some ⟨h, 0, none⟩)) _ rfl (by kernel_rfl) (by kernel_rfl) (by kernel_rfl) (by kernel_rfl) (by kernel_rfl) rfl (fun _ _ _ h => h) (Or.inl ⟨by rfl, ?_⟩) hHeld (fun hHeld => ?_)
        · (intro w1 hSw; have hSw := hSw.1; (try dsimp only at hSw); go_simp)
        simp only [List.getElem_toArray, List.getElem_cons_succ, List.getElem_cons_zero, Act.put, List.setIfInBounds_toArray, List.set_cons_zero, List.set_cons_succ]
        refine wpAnyS_take (i := 2) (v := .pointer (some ⟨h, 0, none⟩)) _ rfl (by kernel_rfl) (by kernel_rfl) (by kernel_rfl) (by kernel_rfl) (by kernel_rfl) rfl (fun _ _ _ h => h) (Or.inl ⟨by rfl, ?_⟩) hHeld (fun hHeld => ?_)
        · (intro w1 hSw; have hSw := hSw.1; (try dsimp only at hSw); go_simp)
        simp only [List.getElem_toArray, List.getElem_cons_succ, List.getElem_cons_zero, Act.put, List.setIfInBounds_toArray, List.set_cons_zero, List.set_cons_succ]
        refine wpAnyS_take (i := 3) (v := .slice (some ⟨gp, 0, none⟩) P'.length cap) _ rfl (by kernel_rfl) (by kernel_rfl) (by kernel_rfl) (by kernel_rfl) (by kernel_rfl) rfl (fun _ _ _ h => h) (Or.inl ⟨by rfl, ?_⟩) hHeld (fun hHeld => ?_)
        · (intro w1 hSw; have hSw := hSw.1; (try dsimp only at hSw); go_simp)
        simp only [List.getElem_toArray, List.getElem_cons_succ, List.getElem_cons_zero, Act.put, List.setIfInBounds_toArray, List.set_cons_zero, List.set_cons_succ]
        refine wpAnyS_take (i := 4) (v := .int .i64 (t : Int)) _ rfl (by kernel_rfl) (by kernel_rfl) (by kernel_rfl) (by kernel_rfl) (by kernel_rfl) rfl (fun _ _ _ h => h) (Or.inl ⟨by rfl, ?_⟩) hHeld (fun hHeld => ?_)
        · (intro w1 hSw; have hSw := hSw.1; (try dsimp only at hSw); go_simp)
        simp only [List.getElem_toArray, List.getElem_cons_succ, List.getElem_cons_zero, Act.put, List.setIfInBounds_toArray, List.set_cons_zero, List.set_cons_succ]
        refine wpAnyS_take (i := 5) (v := .pointer (some ⟨h, 0, none⟩)) _ rfl (by kernel_rfl) (by kernel_rfl) (by kernel_rfl) (by kernel_rfl) (by kernel_rfl) rfl (fun _ _ _ h => h) (Or.inl ⟨by rfl, ?_⟩) hHeld (fun hHeld => ?_)
        · (intro w1 hSw; have hSw := hSw.1; (try dsimp only at hSw); go_simp)
        simp only [List.getElem_toArray, List.getElem_cons_succ, List.getElem_cons_zero, Act.put, List.setIfInBounds_toArray, List.set_cons_zero, List.set_cons_succ]
        refine wpAnyS_take (i := 6) (v := .pointer (some ⟨h, 0, none⟩)) _ rfl (by kernel_rfl) (by kernel_rfl) (by kernel_rfl) (by kernel_rfl) (by kernel_rfl) rfl (fun _ _ _ h => h) (Or.inl ⟨by rfl, ?_⟩) hHeld (fun hHeld => ?_)
        · (intro w1 hSw; have hSw := hSw.1; (try dsimp only at hSw); go_simp)
        simp only [List.getElem_toArray, List.getElem_cons_succ, List.getElem_cons_zero, Act.put, List.setIfInBounds_toArray, List.set_cons_zero, List.set_cons_succ]
        refine wpAnyS_take (i := 7) (v := .pointer (some ⟨h, 0, none⟩)) _ rfl (by kernel_rfl) (by kernel_rfl) (by kernel_rfl) (by kernel_rfl) (by kernel_rfl) rfl (fun _ _ _ h => h) (Or.inl ⟨by rfl, ?_⟩) hHeld (fun hHeld => ?_)
        · (intro w1 hSw; have hSw := hSw.1; (try dsimp only at hSw); go_simp)
        simp only [List.getElem_toArray, List.getElem_cons_succ, List.getElem_cons_zero, Act.put, List.setIfInBounds_toArray, List.set_cons_zero, List.set_cons_succ]
        refine wpAnyS_take (i := 8) (v := .slice (some ⟨gp, 0, none⟩) P'.length cap) _ rfl (by kernel_rfl) (by kernel_rfl) (by kernel_rfl) (by kernel_rfl) (by kernel_rfl) rfl (fun _ _ _ h => h) (Or.inl ⟨by rfl, ?_⟩) hHeld (fun hHeld => ?_)
        · (intro w1 hSw; have hSw := hSw.1; (try dsimp only at hSw); go_simp)
        simp only [List.getElem_toArray, List.getElem_cons_succ, List.getElem_cons_zero, Act.put, List.setIfInBounds_toArray, List.set_cons_zero, List.set_cons_succ]
        refine wpAnyS_take (i := 9) (v := .int .i64 (b : Int)) _ rfl (by kernel_rfl) (by kernel_rfl) (by kernel_rfl) (by kernel_rfl) (by kernel_rfl) rfl (fun _ _ _ h => h) (Or.inl ⟨by rfl, ?_⟩) hHeld (fun hHeld => ?_)
        · (intro w1 hSw; have hSw := hSw.1; (try dsimp only at hSw); go_simp)
        simp only [List.getElem_toArray, List.getElem_cons_succ, List.getElem_cons_zero, Act.put, List.setIfInBounds_toArray, List.set_cons_zero, List.set_cons_succ]
        refine wpAnyS_take (i := 10) (v := .pointer (some ⟨h, 0, none⟩)) _ rfl (by kernel_rfl) (by kernel_rfl) (by kernel_rfl) (by kernel_rfl) (by kernel_rfl) rfl (fun _ _ _ h => h) (Or.inl ⟨by rfl, ?_⟩) hHeld (fun hHeld => ?_)
        · (intro w1 hSw; have hSw := hSw.1; (try dsimp only at hSw); go_simp)
        simp only [List.getElem_toArray, List.getElem_cons_succ, List.getElem_cons_zero, Act.put, List.setIfInBounds_toArray, List.set_cons_zero, List.set_cons_succ]
        refine wpAnyS_take (i := 11) (v := .pointer (some ⟨h, 0, none⟩)) _ rfl (by kernel_rfl) (by kernel_rfl) (by kernel_rfl) (by kernel_rfl) (by kernel_rfl) rfl (fun _ _ _ h => h) (Or.inl ⟨by rfl, ?_⟩) hHeld (fun hHeld => ?_)
        · (intro w1 hSw; have hSw := hSw.1; (try dsimp only at hSw); go_simp)
        simp only [List.getElem_toArray, List.getElem_cons_succ, List.getElem_cons_zero, Act.put, List.setIfInBounds_toArray, List.set_cons_zero, List.set_cons_succ]
        refine wpAnyS_take (i := 12) (v := .pointer (some ⟨h, 0, none⟩)) _ rfl (by kernel_rfl) (by kernel_rfl) (by kernel_rfl) (by kernel_rfl) (by kernel_rfl) rfl (fun _ _ _ h => h) (Or.inl ⟨by rfl, ?_⟩) hHeld (fun hHeld => ?_)
        · (intro w1 hSw; have hSw := hSw.1; (try dsimp only at hSw); go_simp)
        simp only [List.getElem_toArray, List.getElem_cons_succ, List.getElem_cons_zero, Act.put, List.setIfInBounds_toArray, List.set_cons_zero, List.set_cons_succ]
        refine wpAnyS_take (i := 13) (v := .slice (some ⟨gp, 0, none⟩) P'.length cap) _ rfl (by kernel_rfl) (by kernel_rfl) (by kernel_rfl) (by kernel_rfl) (by kernel_rfl) rfl (fun _ _ _ h => h) (Or.inl ⟨by rfl, ?_⟩) hHeld (fun hHeld => ?_)
        · (intro w1 hSw; have hSw := hSw.1; (try dsimp only at hSw); go_simp)
        simp only [List.getElem_toArray, List.getElem_cons_succ, List.getElem_cons_zero, Act.put, List.setIfInBounds_toArray, List.set_cons_zero, List.set_cons_succ]
        refine wpAnyS_take (i := 14) (v := .int .i64 (b : Int)) _ rfl (by kernel_rfl) (by kernel_rfl) (by kernel_rfl) (by kernel_rfl) (by kernel_rfl) rfl (fun _ _ _ h => h) (Or.inl ⟨by rfl, ?_⟩) hHeld (fun hHeld => ?_)
        · (intro w1 hSw; have hSw := hSw.1; (try dsimp only at hSw); go_simp)
        simp only [List.getElem_toArray, List.getElem_cons_succ, List.getElem_cons_zero, Act.put, List.setIfInBounds_toArray, List.set_cons_zero, List.set_cons_succ]
        refine wpAnyS_take (i := 15) (v := .pointer (some ⟨gp, b * 2, none⟩)) _ rfl (by kernel_rfl) (by kernel_rfl) (by kernel_rfl) (by kernel_rfl) (by kernel_rfl) rfl (fun _ _ _ h => h) (Or.inl ⟨by rfl, ?_⟩) hHeld (fun hHeld => ?_)
        · (intro w1 hSw; have hSw := hSw.1; (try dsimp only at hSw); go_simp)
        simp only [List.getElem_toArray, List.getElem_cons_succ, List.getElem_cons_zero, Act.put, List.setIfInBounds_toArray, List.set_cons_zero, List.set_cons_succ]
        refine wpAnyS_take (i := 16) (v := .agg #[.slice (some ⟨qg, qo, none⟩) qxs.length qc, .int .i64 (qr : Int)]) true rfl (by kernel_rfl) (by kernel_rfl) (by kernel_rfl) (by kernel_rfl) (by kernel_rfl) (by kernel_rfl) (fun _ _ _ h => h) (Or.inl ⟨by rfl, ?_⟩) hHeld (fun hHeld => ?_)
        · (intro w1 hSw; have hSw2 := hSw.2 rfl; have hSw := hSw.1; (try dsimp only at hSw hSw2); go_simp)
        simp only [List.getElem_toArray, List.getElem_cons_succ, List.getElem_cons_zero, Act.put, List.setIfInBounds_toArray, List.set_cons_zero, List.set_cons_succ]
        refine wpAnyS_take (i := 17) (v := .pointer (some ⟨h, 0, none⟩)) _ rfl (by kernel_rfl) (by kernel_rfl) (by kernel_rfl) (by kernel_rfl) (by kernel_rfl) rfl (fun _ _ _ h => h) (Or.inl ⟨by rfl, ?_⟩) hHeld (fun hHeld => ?_)
        · (intro w1 hSw; have hSw := hSw.1; (try dsimp only at hSw); go_simp)
        simp only [List.getElem_toArray, List.getElem_cons_succ, List.getElem_cons_zero, Act.put, List.setIfInBounds_toArray, List.set_cons_zero, List.set_cons_succ]
        refine wpAnyS_take (i := 18) (v := .pointer (some ⟨h, 0, none⟩)) _ rfl (by kernel_rfl) (by kernel_rfl) (by kernel_rfl) (by kernel_rfl) (by kernel_rfl) rfl (fun _ _ _ h => h) (Or.inl ⟨by rfl, ?_⟩) hHeld (fun hHeld => ?_)
        · (intro w1 hSw; have hSw := hSw.1; (try dsimp only at hSw); go_simp)
        simp only [List.getElem_toArray, List.getElem_cons_succ, List.getElem_cons_zero, Act.put, List.setIfInBounds_toArray, List.set_cons_zero, List.set_cons_succ]
        refine wpAnyS_take (i := 19) (v := .pointer (some ⟨h, 0, none⟩)) _ rfl (by kernel_rfl) (by kernel_rfl) (by kernel_rfl) (by kernel_rfl) (by kernel_rfl) rfl (fun _ _ _ h => h) (Or.inl ⟨by rfl, ?_⟩) hHeld (fun hHeld => ?_)
        · (intro w1 hSw; have hSw := hSw.1; (try dsimp only at hSw); go_simp)
        simp only [List.getElem_toArray, List.getElem_cons_succ, List.getElem_cons_zero, Act.put, List.setIfInBounds_toArray, List.set_cons_zero, List.set_cons_succ]
        refine wpAnyS_take (i := 20) (v := .slice (some ⟨gp, 0, none⟩) P'.length cap) _ rfl (by kernel_rfl) (by kernel_rfl) (by kernel_rfl) (by kernel_rfl) (by kernel_rfl) rfl (fun _ _ _ h => h) (Or.inl ⟨by rfl, ?_⟩) hHeld (fun hHeld => ?_)
        · (intro w1 hSw; have hSw := hSw.1; (try dsimp only at hSw); go_simp)
        simp only [List.getElem_toArray, List.getElem_cons_succ, List.getElem_cons_zero, Act.put, List.setIfInBounds_toArray, List.set_cons_zero, List.set_cons_succ]
        refine wpAnyS_take (i := 21) (v := .int .i64 (t : Int)) _ rfl (by kernel_rfl) (by kernel_rfl) (by kernel_rfl) (by kernel_rfl) (by kernel_rfl) rfl (fun _ _ _ h => h) (Or.inl ⟨by rfl, ?_⟩) hHeld (fun hHeld => ?_)
        · (intro w1 hSw; have hSw := hSw.1; (try dsimp only at hSw); go_simp)
        simp only [List.getElem_toArray, List.getElem_cons_succ, List.getElem_cons_zero, Act.put, List.setIfInBounds_toArray, List.set_cons_zero, List.set_cons_succ]
        refine wpAnyS_take (i := 22) (v := .pointer (some ⟨gp, t * 2, none⟩)) _ rfl (by kernel_rfl) (by kernel_rfl) (by kernel_rfl) (by kernel_rfl) (by kernel_rfl) rfl (fun _ _ _ h => h) (Or.inl ⟨by rfl, ?_⟩) hHeld (fun hHeld => ?_)
        · (intro w1 hSw; have hSw := hSw.1; (try dsimp only at hSw); go_simp)
        simp only [List.getElem_toArray, List.getElem_cons_succ, List.getElem_cons_zero, Act.put, List.setIfInBounds_toArray, List.set_cons_zero, List.set_cons_succ]
        refine wpAnyS_take (i := 23) (v := .agg #[.slice (some ⟨pg, po, none⟩) pxs.length pc, .int .i64 (pr : Int)]) true rfl (by kernel_rfl) (by kernel_rfl) (by kernel_rfl) (by kernel_rfl) (by kernel_rfl) (by kernel_rfl) (fun _ _ _ h => h) (Or.inl ⟨by rfl, ?_⟩) hHeld (fun hHeld => ?_)
        · (intro w1 hSw; have hSw2 := hSw.2 rfl; have hSw := hSw.1; (try dsimp only at hSw hSw2); go_simp)
        simp only [List.getElem_toArray, List.getElem_cons_succ, List.getElem_cons_zero, Act.put, List.setIfInBounds_toArray, List.set_cons_zero, List.set_cons_succ]
        refine wpAnyS_take (i := 24) (v := .pointer (some ⟨gp, t * 2, none⟩)) _ rfl (by kernel_rfl) (by kernel_rfl) (by kernel_rfl) (by kernel_rfl) (by kernel_rfl) rfl (fun _ _ _ h => h) (Or.inl ⟨by rfl, ?_⟩) hHeld (fun hHeld => ?_)
        · (intro w1 hSw; have hSw := hSw.1; (try dsimp only at hSw); go_simp)
        simp only [List.getElem_toArray, List.getElem_cons_succ, List.getElem_cons_zero, Act.put, List.setIfInBounds_toArray, List.set_cons_zero, List.set_cons_succ]
        refine wpAnyS_ready (i := 25) (by kernel_rfl) rfl (fun K hK => ?_)
        go_simp
        refine hK.out _ _ ⟨?_, fun hno => absurd hno (by decide)⟩ (fun hHeld => ?_)
        · exact ⟨V0.out, V1.out⟩
        clear hK K
        refine wpAnyS_take (i := 26) (v := .pointer (some ⟨gp, b * 2, none⟩)) _ rfl (by kernel_rfl) (by kernel_rfl) (by kernel_rfl) (by kernel_rfl) (by kernel_rfl) rfl (fun _ _ _ h => h) (Or.inl ⟨by rfl, ?_⟩) hHeld (fun hHeld => ?_)
        · (intro w1 hSw; have hSw := hSw.1; (try dsimp only at hSw); go_simp)
        simp only [List.getElem_toArray, List.getElem_cons_succ, List.getElem_cons_zero, Act.put, List.setIfInBounds_toArray, List.set_cons_zero, List.set_cons_succ]
        refine wpAnyS_ready (i := 27) (by kernel_rfl) rfl (fun K hK => ?_)
        go_simp
        refine hK.out _ _ ⟨?_, fun hno => absurd hno (by decide)⟩ (fun hHeld => ?_)
        · exact ⟨(World.cell?_setCell_other _ _ _ _ (by first | (simp; done) | (simp; omega))).trans ((World.cell?_setCell_other _ _ _ _ (by first | (simp; done) | (simp; omega))).trans V0.out), (World.cell?_setCell_other _ _ _ _ (by first | (simp; done) | (simp [hneh.symm]; done))).trans ((World.cell?_setCell_other _ _ _ _ (by first | (simp; done) | (simp [hneh.symm]; done))).trans V1.out)⟩
        clear hK K
        refine wpAnyS_done (by kernel_rfl) ?_ _
        refine NoPanic.normal ?_
        go_wp2_with fail
        go_roundw
        case rel => exact ⟨b, swp ptZ P' t b, by omega, rfl, HW.out.1.below (Below.refl _ _).drew, (swp_perm ptZ hlt hlb).trans HP.out, HIr.out.step lePt_asymm hlb htb.2 HLT.out HSB.out, (HF2.out.trans HW.out.2).trans (Fr.of_below (Below.refl _ _).drew (Nat.le_trans hlo (HF2.out.trans HW.out.2).b.size)), (HW.out.2.h _ hsz (Array.getElem?_eq_some_iff.1 HB2.out).1).trans HB2.out⟩
        case measure => have h9 := HLn.out; simp [intOf]; omega
    | false =>
      go_wp2_with fail
      refine (ahead_int lo hh h _ P' (2 * t + 1) t _ _ (by omega) (by omega) _ HM1.out HCB1.out (by omega)).mono ?_
      rintro e w2 ⟨b2, rfl, hb2, hbl2⟩
      have HM2 : Hid (HM w2 lo hh h P') := HM1.out.below hbl2
      have HF2 : Hid (Fr lo hh w w2) := HF1.out.trans (Fr.of_below hbl2 (Nat.le_trans hlo HF1.out.b.size))
      have HB2 : Hid (w2.heap[w.heap.size]? = some (.cells #[.pointer (some ⟨h, 0, none⟩)] 82)) := (hbl2.block _ (Array.getElem?_eq_some_iff.1 HB1.out).1).trans HB1.out
      have hcb2 := (cell_row HB2.out 0 (by simp)).1
      simp only [List.getElem_toArray, List.getElem_cons_zero] at hcb2
      have HCB2 : Hid _ := hcb2
      have Hb2 : Hid _ := hb2
      clear HM1 HF1 HB1 HCB1 hbl2 hb2 hcb2
      cases b2 with
      | false =>
        have HSP : Hid (HQ lePt ptZ P' s) := HIr.out.stop (fun c h1 h2 h3 => by
          have hc : c = 2 * t + 1 ∨ c = 2 * t + 2 := by omega
          rcases hc with rfl | rfl
          · exact fun h4 => by cases (Hb2.out.2 ⟨h1, h4⟩)
          · refine nltT_trans (y := hdT (paP (P'.getD (2 * t + 1) ptZ))) (fun h4 => ?_) (fun h4 => ?_)
            · cases (Hb2.out.2 ⟨by omega, h4⟩)
            · cases (Hb1.out.2 ⟨h1, h4⟩))
        go_wp2_with fail
        refine bodyPost_end (results_none rfl _ _ _) rfl ?_
        exact ⟨⟨_, rfl⟩, P', HM2.out, HP.out, HSP.out, HF2.out⟩
      | true =>
        obtain ⟨b, Hb⟩ := hid_ex (2 * t + 1)
        have hbv : 2 * (t : Int) + 1 = (b : Int) := by rw [Hb.out]; omega
        have hlb : b < P'.length := by rw [Hb.out]; exact (Hb2.out.1 (by trivial)).1
        have HLT : Hid (lePt (P'.getD b ptZ) (P'.getD t ptZ)) := by rw [Hb.out]; exact (Hb2.out.1 (by trivial)).2
        have HSB : Hid (∀ c, c < P'.length → (c = 2 * t + 1 ∨ c = 2 * t + 2) → c ≠ b → ¬ lePt (P'.getD c ptZ) (P'.getD b ptZ)) := by
          rw [Hb.out]
          intro c h1 h2 h3 h4
          have e : c = 2 * t + 2 := by omega
          subst e
          cases (Hb1.out.2 ⟨h1, h4⟩)
        have htb : t < b ∧ (b = 2 * t + 1 ∨ b = 2 * t + 2) := by rw [Hb.out]; omega
        obtain ⟨a, cap, e1, e2, e3, e4, e5⟩ := HM2.out.arr
        obtain ⟨gp, rfl, g1, g2, g3, g4⟩ := e5 (by omega)
        have x0 := (cell_row HB2.out 0 (by simp)).1
        have x1 := (cell_row e1 0 (by simp)).1
        simp only [List.getElem_toArray, List.getElem_cons_zero] at x0 x1
        obtain ⟨y0, y1, y2, y3⟩ := g4 t (by omega)
        obtain ⟨z0, z1, z2, z3⟩ := g4 b hlb
        have HPT : Hid (P'.getD t ptZ = P'[t]'(by omega)) := getD_get _ _
        have HPB : Hid (P'.getD b ptZ = P'[b]) := getD_get _ _
        have hneh : h ≠ gp := by
          rintro rfl
          rcases e2.2 with ⟨q, _⟩ | ⟨g, c, cur, q, _, hw, _⟩
          · simp at q
          · simp at q
            obtain ⟨rfl, _⟩ := q
            rw [e1] at hw
            simp at hw
        have hnew : w.heap.size ≠ gp := by
          omega
        have hlt : t < P'.length := by omega
        unfold lv at y0 z0
        generalize P'[t]'(by omega) = p at *
        generalize P'[b] = q at *
        obtain ⟨pg, po, pc, pxs, pr⟩ := p
        obtain ⟨qg, qo, qc, qxs, qr⟩ := q
        simp only at y0 y1 z0 z1
        unfold maxLen at e4
        have u0 : ((w2.setCell ⟨gp, t * 2, none⟩ (.slice (some ⟨qg, qo, none⟩) qxs.length qc)).setCell ⟨gp, t * 2 + 1, none⟩ (.int .i64 (qr : Int))).cell? ⟨gp, b * 2, none⟩ = some (.slice (some ⟨qg, qo, none⟩) qxs.length qc) := by rw [World.cell?_setCell_other _ _ _ _ (by first | (simp; done) | (simp; omega)), World.cell?_setCell_other _ _ _ _ (by first | (simp; done) | (simp; omega))]; exact z0
        have u1 : ((w2.setCell ⟨gp, t * 2, none⟩ (.slice (some ⟨qg, qo, none⟩) qxs.length qc)).setCell ⟨gp, t * 2 + 1, none⟩ (.int .i64 (qr : Int))).cell? ⟨gp, b * 2 + 1, none⟩ = some (.int .i64 (qr : Int)) := by rw [World.cell?_setCell_other _ _ _ _ (by first | (simp; done) | (simp; omega)), World.cell?_setCell_other _ _ _ _ (by first | (simp; done) | (simp; omega))]; exact z1
        have v0 : ((w2.setCell ⟨gp, t * 2, none⟩ (.slice (some ⟨qg, qo, none⟩) qxs.length qc)).setCell ⟨gp, t * 2 + 1, none⟩ (.int .i64 (qr : Int))).cell? ⟨w.heap.size, 0, none⟩ = some (.pointer (some ⟨h, 0, none⟩)) := by rw [World.cell?_setCell_other _ _ _ _ (by first | (simp; done) | (simp; omega)), World.cell?_setCell_other _ _ _ _ (by first | (simp; done) | (simp; omega))]; exact x0
        have v1 : ((w2.setCell ⟨gp, t * 2, none⟩ (.slice (some ⟨qg, qo, none⟩) qxs.length qc)).setCell ⟨gp, t * 2 + 1, none⟩ (.int .i64 (qr : Int))).cell? ⟨h, 0, none⟩ = some (.slice (some ⟨gp, 0, none⟩) P'.length cap) := by rw [World.cell?_setCell_other _ _ _ _ (by first | (simp; done) | (simp [hneh.symm]; done)), World.cell?_setCell_other _ _ _ _ (by first | (simp; done) | (simp [hneh.symm]; done))]; exact x1
        have V0 : Hid _ := v0
        have V1 : Hid _ := v1
        clear v0 v1
        have E1 : Hid _ := e1
        have E2 : Hid _ := e2
        have HW : Hid (HM (setP (setP w2 gp t ⟨qg, qo, qc, qxs, qr⟩) gp b ⟨pg, po, pc, pxs, pr⟩) lo hh h (swp ptZ P' t b) ∧ Fr lo hh w2 (setP (setP w2 gp t ⟨qg, qo, qc, qxs, qr⟩) gp b ⟨pg, po, pc, pxs, pr⟩)) := by
          have := HM.swap HM2.out e1 e2 (t := t) (b := b) (by omega) hlb g1 g2
          rw [HPT.out, HPB.out] at this
          exact this
        clear e1 e2 e5 g4
        go_wp2_with fail
        have hfz : ∀ i, w2.frozen? ⟨gp, i, none⟩ = false := fun i => World.ownsRow.frozenAt E2.out i
        refine wp_region_noPanic ?_
        refine wp_region_S 25 (fun w' => w'.cell? ⟨w.heap.size, 0, none⟩ = some (.pointer (some ⟨h, 0, none⟩)) ∧ w'.cell? ⟨h, 0, none⟩ = some (.slice (some ⟨gp, 0, none⟩) P'.length cap)) (fun w' => w'.cell? ⟨gp, t * 2, none⟩ = some (.slice (some ⟨pg, po, none⟩) pxs.length pc) ∧ w'.cell? ⟨gp, t * 2 + 1, none⟩ = some (.int .i64 (pr : Int)) ∧ w'.cell? ⟨gp, b * 2, none⟩ = some (.slice (some ⟨qg, qo, none⟩) qxs.length qc) ∧ w'.cell? ⟨gp, b * 2 + 1, none⟩ = some (.int .i64 (qr : Int))) (by kernel_rfl) ?_ ?_ (fun hHeld => ?_)
        · exact ⟨x0, x1⟩
        · exact ⟨y0, y1, z0, z1⟩
        refine wpAnyS_take (i := 0) (v := .pointer (some ⟨h, 0, none⟩)) _ rfl (by kernel_rfl) (by kernel_rfl) (by kernel_rfl) (by kernel_rfl) (by kernel_rfl) rfl (fun _ _ _ h => h) (Or.inl ⟨by rfl, ?_⟩) hHeld (fun hHeld => ?_)
        · (intro w1 hSw; have hSw := hSw.1; (try dsimp only at hSw); go_simp)
        simp only [List.getElem_toArray, List.getElem_cons_zero, Act.put, List.setIfInBounds_toArray, List.set_cons_zero, List.set_cons_succ]
        refine wpAnyS_take (i := 1) (v := .pointer (some ⟨h, 0, none⟩)) _ rfl (by kernel_rfl) (by kernel_rfl) (by kernel_rfl) (by kernel_rfl) (by kernel_rfl) rfl (fun _ _ _ h => h) (Or.inl ⟨by rfl, ?_⟩) hHeld (fun hHeld => ?_)
        · (intro w1 hSw; have hSw := hSw.1; (try dsimp only at hSw); go_simp)
        simp only [List.getElem_toArray, List.getElem_cons_succ, List.getElem_cons_zero, Act.put, List.setIfInBounds_toArray, List.set_cons_zero, List.set_cons_succ]
        refine wpAnyS_take (i := 2) (v := .pointer (some ⟨h, 0, none⟩)) _ rfl (by kernel_rfl) (by kernel_rfl) (by kernel_rfl) (by kernel_rfl) (by kernel_rfl) rfl (fun _ _ _ h => h) (Or.inl ⟨by rfl, ?_⟩) hHeld (fun hHeld => ?_)
        · (intro w1 hSw; have hSw := hSw.1; (try dsimp only at hSw); go_simp)
        simp only [List.getElem_toArray, List.getElem_cons_succ, List.getElem_cons_zero, Act.put, List.setIfInBounds_toArray, List.set_cons_zero, List.set_cons_succ]
        refine wpAnyS_take (i := 3) (v := .slice (some ⟨gp, 0, none⟩) P'.length cap) _ rfl (by kernel_rfl) (by kernel_rfl) (by kernel_rfl) (by kernel_rfl) (by kernel_rfl) rfl (fun _ _ _ h => h) (Or.inl ⟨by rfl, ?_⟩) hHeld (fun hHeld => ?_)
        · (intro w1 hSw; have hSw := hSw.1; (try dsimp only at hSw); go_simp)
        simp only [List.getElem_toArray, List.getElem_cons_succ, List.getElem_cons_zero, Act.put, List.setIfInBounds_toArray, List.set_cons_zero, List.set_cons_succ]
        refine wpAnyS_take (i := 4) (v := .int .i64 (t : Int)) _ rfl (by kernel_rfl) (by kernel_rfl) (by kernel_rfl) (by kernel_rfl) (by kernel_rfl) rfl (fun _ _ _ h => h) (Or.inl ⟨by rfl, ?_⟩) hHeld (fun hHeld => ?_)
        · (intro w1 hSw; have hSw := hSw.1; (try dsimp only at hSw); go_simp)
        simp only [List.getElem_toArray, List.getElem_cons_succ, List.getElem_cons_zero, Act.put, List.setIfInBounds_toArray, List.set_cons_zero, List.set_cons_succ]
        refine wpAnyS_take (i := 5) (v := .pointer (some ⟨h, 0, none⟩)) _ rfl (by kernel_rfl) (by kernel_rfl) (by kernel_rfl) (by kernel_rfl) (by kernel_rfl) rfl (fun _ _ _ h => h) (Or.inl ⟨by rfl, ?_⟩) hHeld (fun hHeld => ?_)
        · (intro w1 hSw; have hSw := hSw.1; (try dsimp only at hSw); go_simp)
        simp only [List.getElem_toArray, List.getElem_cons_succ, List.getElem_cons_zero, Act.put, List.setIfInBounds_toArray, List.set_cons_zero, List.set_cons_succ]
        refine wpAnyS_take (i := 6) (v := .pointer (some ⟨h, 0, none⟩)) _ rfl (by kernel_rfl) (by kernel_rfl) (by kernel_rfl) (by kernel_rfl) (by kernel_rfl) rfl (fun _ _ _ h => h) (Or.inl ⟨by rfl, ?_⟩) hHeld (fun hHeld => ?_)
        · (intro w1 hSw; have hSw := hSw.1; (try dsimp only at hSw); go_simp)
        simp only [List.getElem_toArray, List.getElem_cons_succ, List.getElem_cons_zero, Act.put, List.setIfInBounds_toArray, List.set_cons_zero, List.set_cons_succ]
        refine wpAnyS_take (i := 7) (v := .pointer (some ⟨h, 0, none⟩)) _ rfl (by kernel_rfl) (by kernel_rfl) (by kernel_rfl) (by kernel_rfl) (by kernel_rfl) rfl (fun _ _ _ h => h) (Or.inl ⟨by rfl, ?_⟩) hHeld (fun hHeld => ?_)
        · (intro w1 hSw; have hSw := hSw.1; (try dsimp only at hSw); go_simp)
        simp only [List.getElem_toArray, List.getElem_cons_succ, List.getElem_cons_zero, Act.put, List.setIfInBounds_toArray, List.set_cons_zero, List.set_cons_succ]
        refine wpAnyS_take (i := 8) (v := .slice (some ⟨gp, 0, none⟩) P'.length cap) _ rfl (by kernel_rfl) (by kernel_rfl) (by kernel_rfl) (by kernel_rfl) (by kernel_rfl) rfl (fun _ _ _ h => h) (Or.inl ⟨by rfl, ?_⟩) hHeld (fun hHeld => ?_)
        · (intro w1 hSw; have hSw := hSw.1; (try dsimp only at hSw); go_simp)
        simp only [List.getElem_toArray, List.getElem_cons_succ, List.getElem_cons_zero, Act.put, List.setIfInBounds_toArray, List.set_cons_zero, List.set_cons_succ]
        refine wpAnyS_take (i := 9) (v := .int .i64 (b : Int)) _ rfl (by kernel_rfl) (by kernel_rfl) (by kernel_rfl) (by kernel_rfl) (by kernel_rfl) rfl (fun _ _ _ h => h) (Or.inl ⟨by rfl, ?_⟩) hHeld (fun hHeld => ?_)
        · (intro w1 hSw; have hSw := hSw.1; (try dsimp only at hSw); go_simp)
        simp only [List.getElem_toArray, List.getElem_cons_succ, List.getElem_cons_zero, Act.put, List.setIfInBounds_toArray, List.set_cons_zero, List.set_cons_succ]
        refine wpAnyS_take (i := 10) (v := .pointer (some ⟨h, 0, none⟩)) _ rfl (by kernel_rfl) (by kernel_rfl) (by kernel_rfl) (by kernel_rfl) (by kernel_rfl) rfl (fun _ _ _ h => h) (Or.inl ⟨by rfl, ?_⟩) hHeld (fun hHeld => ?_)
        · (intro w1 hSw; have hSw := hSw.1; (try dsimp only at hSw); go_simp)
        simp only [List.getElem_toArray, List.getElem_cons_succ, List.getElem_cons_zero, Act.put, List.setIfInBounds_toArray, List.set_cons_zero, List.set_cons_succ]
        refine wpAnyS_take (i := 11) (v := .pointer (some ⟨h, 0, none⟩)) _ rfl (by kernel_rfl) (by kernel_rfl) (by kernel_rfl) (by kernel_rfl) (by kernel_rfl) rfl (fun _ _ _ h => h) (Or.inl ⟨by rfl, ?_⟩) hHeld (fun hHeld => ?_)
        · (intro w1 hSw; have hSw := hSw.1; (try dsimp only at hSw); go_simp)
        simp only [List.getElem_toArray, List.getElem_cons_succ, List.getElem_cons_zero, Act.put, List.setIfInBounds_toArray, List.set_cons_zero, List.set_cons_succ]
        refine wpAnyS_take (i := 12) (v := .pointer (some ⟨h, 0, none⟩)) _ rfl (by kernel_rfl) (by kernel_rfl) (by kernel_rfl) (by kernel_rfl) (by kernel_rfl) rfl (fun _ _ _ h => h) (Or.inl ⟨by rfl, ?_⟩) hHeld (fun hHeld => ?_)
        · (intro w1 hSw; have hSw := hSw.1; (try dsimp only at hSw); go_simp)
        simp only [List.getElem_toArray, List.getElem_cons_succ, List.getElem_cons_zero, Act.put, List.setIfInBounds_toArray, List.set_cons_zero, List.set_cons_succ]
        refine wpAnyS_take (i := 13) (v := .slice (some ⟨gp, 0, none⟩) P'.length cap) _ rfl (by kernel_rfl) (by kernel_rfl) (by kernel_rfl) (by kernel_rfl) (by kernel_rfl) rfl (fun _ _ _ h => h) (Or.inl ⟨by rfl, ?_⟩) hHeld (fun hHeld => ?_)
        · (intro w1 hSw; have hSw := hSw.1; (try dsimp only at hSw); go_simp)
        simp only [List.getElem_toArray, List.getElem_cons_succ, List.getElem_cons_zero, Act.put, List.setIfInBounds_toArray, List.set_cons_zero, List.set_cons_succ]
        refine wpAnyS_take (i := 14) (v := .int .i64 (b : Int)) _ rfl (by kernel_rfl) (by kernel_rfl) (by kernel_rfl) (by kernel_rfl) (by kernel_rfl) rfl (fun _ _ _ h => h) (Or.inl ⟨by rfl, ?_⟩) hHeld (fun hHeld => ?_)
        · (intro w1 hSw; have hSw := hSw.1; (try dsimp only at hSw); go_simp)
        simp only [List.getElem_toArray, List.getElem_cons_succ, List.getElem_cons_zero, Act.put, List.setIfInBounds_toArray, List.set_cons_zero, List.set_cons_succ]
        refine wpAnyS_take (i := 15) (v := .pointer (some ⟨gp, b * 2, none⟩)) _ rfl (by kernel_rfl) (by kernel_rfl) (by kernel_rfl) (by kernel_rfl) (by kernel_rfl) rfl (fun _ _ _ h => h) (Or.inl ⟨by rfl, ?_⟩) hHeld (fun hHeld => ?_)
        · (intro w1 hSw; have hSw := hSw.1; (try dsimp only at hSw); go_simp)
        simp only [List.getElem_toArray, List.getElem_cons_succ, List.getElem_cons_zero, Act.put, List.setIfInBounds_toArray, List.set_cons_zero, List.set_cons_succ]
        refine wpAnyS_take (i := 16) (v := .agg #[.slice (some ⟨qg, qo, none⟩) qxs.length qc, .int .i64 (qr : Int)]) true rfl (by kernel_rfl) (by kernel_rfl) (by kernel_rfl) (by kernel_rfl) (by kernel_rfl) (by kernel_rfl) (fun _ _ _ h => h) (Or.inl ⟨by rfl, ?_⟩) hHeld (fun hHeld => ?_)
        · (intro w1 hSw; have hSw2 := hSw.2 rfl; have hSw := hSw.1; (try dsimp only at hSw hSw2); go_simp)
        simp only [List.getElem_toArray, List.getElem_cons_succ, List.getElem_cons_zero, Act.put, List.setIfInBounds_toArray, List.set_cons_zero, List.set_cons_succ]
        refine wpAnyS_take (i := 17) (v := .pointer (some ⟨h, 0, none⟩)) _ rfl (by kernel_rfl) (by kernel_rfl) (by kernel_rfl) (by kernel_rfl) (by kernel_rfl) rfl (fun _ _ _ h => h) (Or.inl ⟨by rfl, ?_⟩) hHeld (fun hHeld => ?_)
        · (intro w1 hSw; have hSw := hSw.1; (try dsimp only at hSw); go_simp)
        simp only [List.getElem_toArray, List.getElem_cons_succ, List.getElem_cons_zero, Act.put, List.setIfInBounds_toArray, List.set_cons_zero, List.set_cons_succ]
        refine wpAnyS_take (i := 18) (v := .pointer (some ⟨h, 0, none⟩)) _ rfl (by kernel_rfl) (by kernel_rfl) (by kernel_rfl) (by kernel_rfl) (by kernel_rfl) rfl (fun _ _ _ h => h) (Or.inl ⟨by rfl, ?_⟩) hHeld (fun hHeld => ?_)
        · (intro w1 hSw; have hSw := hSw.1; (try dsimp only at hSw); go_simp)
        simp only [List.getElem_toArray, List.getElem_cons_succ, List.getElem_cons_zero, Act.put, List.setIfInBounds_toArray, List.set_cons_zero, List.set_cons_succ]
        refine wpAnyS_take (i := 19) (v := .pointer (some ⟨h, 0, none⟩)) _ rfl (by kernel_rfl) (by kernel_rfl) (by kernel_rfl) (by kernel_rfl) (by kernel_rfl) rfl (fun _ _ _ h => h) (Or.inl ⟨by rfl, ?_⟩) hHeld (fun hHeld => ?_)
        · (intro w1 hSw; have hSw := hSw.1; (try dsimp only at hSw); go_simp)
        simp only [List.getElem_toArray, List.getElem_cons_succ, List.getElem_cons_zero, Act.put, List.setIfInBounds_toArray, List.set_cons_zero, List.set_cons_succ]
        refine wpAnyS_take (i := 20) (v := .slice (some ⟨gp, 0, none⟩) P'.length cap) _ rfl (by kernel_rfl) (by kernel_rfl) (by kernel_rfl) (by kernel_rfl) (by kernel_rfl) rfl (fun _ _ _ h => h) (Or.inl ⟨by rfl, ?_⟩) hHeld (fun hHeld => ?_)
        · (intro w1 hSw; have hSw := hSw.1; (try dsimp only at hSw); go_simp)
        simp only [List.getElem_toArray, List.getElem_cons_succ, List.getElem_cons_zero, Act.put, List.setIfInBounds_toArray, List.set_cons_zero, List.set_cons_succ]
        refine wpAnyS_take (i := 21) (v := .int .i64 (t : Int)) _ rfl (by kernel_rfl) (by kernel_rfl) (by kernel_rfl) (by kernel_rfl) (by kernel_rfl) rfl (fun _ _ _ h => h) (Or.inl ⟨by rfl, ?_⟩) hHeld (fun hHeld => ?_)
        · (intro w1 hSw; have hSw := hSw.1; (try dsimp only at hSw); go_simp)
        simp only [List.getElem_toArray, List.getElem_cons_succ, List.getElem_cons_zero, Act.put, List.setIfInBounds_toArray, List.set_cons_zero, List.set_cons_succ]
        refine wpAnyS_take (i := 22) (v := .pointer (some ⟨gp, t * 2, none⟩)) _ rfl (by kernel_rfl) (by kernel_rfl) (by kernel_rfl) (by kernel_rfl) (by kernel_rfl) rfl (fun _ _ _ h => h) (Or.inl ⟨by rfl, ?_⟩) hHeld (fun hHeld => ?_)
        · (intro w1 hSw; have hSw := hSw.1; (try dsimp only at hSw); go_simp)
        simp only [List.getElem_toArray, List.getElem_cons_succ, List.getElem_cons_zero, Act.put, List.setIfInBounds_toArray, List.set_cons_zero, List.set_cons_succ]
        refine wpAnyS_take (i := 23) (v := .agg #[.slice (some ⟨pg, po, none⟩) pxs.length pc, .int .i64 (pr : Int)]) true rfl (by kernel_rfl) (by kernel_rfl) (by kernel_rfl) (by kernel_rfl) (by kernel_rfl) (by kernel_rfl) (fun _ _ _ h => h) (Or.inl ⟨by rfl, ?_⟩) hHeld (fun hHeld => ?_)
        · (intro w1 hSw; have hSw2 := hSw.2 rfl; have hSw := hSw.1; (try dsimp only at hSw hSw2); go_simp)
        simp only [List.getElem_toArray, List.getElem_cons_succ, List.getElem_cons_zero, Act.put, List.setIfInBounds_toArray, List.set_cons_zero, List.set_cons_succ]
        refine wpAnyS_take (i := 24) (v := .pointer (some ⟨gp, t * 2, none⟩)) _ rfl (by kernel_rfl) (by kernel_rfl) (by kernel_rfl) (by kernel_rfl) (by kernel_rfl) rfl (fun _ _ _ h => h) (Or.inl ⟨by rfl, ?_⟩) hHeld (fun hHeld => ?_)
        · (intro w1 hSw; have hSw := hSw.1; (try dsimp only at hSw); go_simp)
        simp only [List.getElem_toArray, List.getElem_cons_succ, List.getElem_cons_zero, Act.put, List.setIfInBounds_toArray, List.set_cons_zero, List.set_cons_succ]
        refine wpAnyS_ready (i := 25) (by kernel_rfl) rfl (fun K hK => ?_)
        go_simp
        refine hK.out _ _ ⟨?_, fun hno => absurd hno (by decide)⟩ (fun hHeld => ?_)
        · exact ⟨V0.out, V1.out⟩
        clear hK K
        refine wpAnyS_take (i := 26) (v := .pointer (some ⟨gp, b * 2, none⟩)) _ rfl (by kernel_rfl) (by kernel_rfl) (by kernel_rfl) (by kernel_rfl) (by kernel_rfl) rfl (fun _ _ _ h => h) (Or.inl ⟨by rfl, ?_⟩) hHeld (fun hHeld => ?_)
        · (intro w1 hSw; have hSw := hSw.1; (try dsimp only at hSw); go_simp)
        simp only [List.getElem_toArray, List.getElem_cons_succ, List.getElem_cons_zero, Act.put, List.setIfInBounds_toArray, List.set_cons_zero, List.set_cons_succ]
        refine wpAnyS_ready (i := 27) (by kernel_rfl) rfl (fun K hK => ?_)
        go_simp
        refine hK.out _ _ ⟨?_, fun hno => absurd hno (by decide)⟩ (fun hHeld => ?_)
        · exact ⟨(World.cell?_setCell_other _ _ _ _ (by first | (simp; done) | (simp; omega))).trans ((World.cell?_setCell_other _ _ _ _ (by first | (simp; done) | (simp; omega))).trans V0.out), (World.cell?_setCell_other _ _ _ _ (by first | (simp; done) | (simp [hneh.symm]; done))).trans ((World.cell?_setCell_other _ _ _ _ (by first | (simp; done) | (simp [hneh.symm]; done))).trans V1.out)⟩
        clear hK K
        refine wpAnyS_done (by kernel_rfl) ?_ _
        refine NoPanic.normal ?_
        go_wp2_with fail
        go_roundw
        case rel => exact ⟨b, swp ptZ P' t b, by omega, rfl, HW.out.1.below (Below.refl _ _).drew, (swp_perm ptZ hlt hlb).trans HP.out, HIr.out.step lePt_asymm hlb htb.2 HLT.out HSB.out, (HF2.out.trans HW.out.2).trans (Fr.of_below (Below.refl _ _).drew (Nat.le_trans hlo (HF2.out.trans HW.out.2).b.size)), (HW.out.2.h _ hsz (Array.getElem?_eq_some_iff.1 HB2.out).1).trans HB2.out⟩
        case measure => have h9 := HLn.out; simp [intOf]; omega
end Go.Proofs.YthicmbjiblbcmaaGreat
