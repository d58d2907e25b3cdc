/- PT3, joined. -/
import Derived.Test.YthicmbjiblbcmaaGreatTQ24
import Derived.Test.YthicmbjiblbcmaaGreatTQ30
/- TopTree: a run is added. -/
namespace Go.Proofs.YthicmbjiblbcmaaGreat
open Go.RowKit

/-- What add does: its run, and its row. -/
def AdP (R : Rl) (wm : Int) (base p : Nat) (L : List Rn) (GV : List (Value × List En)) (lv : Value) (l : List En) (w : World) (e : Ending) (w' : World) : Prop :=
  e = .returned (.bool (decide (chkF R wm l = 0))) ∧ Below base w w' ∧ ∃ rv' gv', TrAt R wm base p w' rv' gv' (L ++ [⟨(GV.length : Int), 0, (l.length : Int), stB R wm l⟩]) (GV ++ [(lv, l)])
set_option maxRecDepth 100000 in
set_option maxHeartbeats 8000000 in
theorem addT_any {R : Rl} {wm : Int} {base p : Nat} {w : World} {rv gv : Value} {L : List Rn} {GV : List (Value × List En)} (h : TrAt R wm base p w rv gv L GV) (hb : base ≤ w.heap.size) (hL : Lies R w.heap.size w) {lv : Value} {l : List En} (hl : EKeep w (Xs p rv gv) lv l) (hl1 : l.length ≤ 60) (hl2 : ∀ x ∈ l, x.1.length ≤ 300) (hn1 : L.length ≤ 64) (hn2 : GV.length ≤ 64) :
    Calls Tryz.prog 6 #[.pointer (some ⟨p, 0, none⟩), .int .i64 0, lv] w (AdP R wm base p L GV lv l w) := by
  have HT : Hid (TrAt R wm base p w rv gv L GV) := h
  have HBX := (show Hid _ from h.bx)
  have hpl := (h.lo p (.inl rfl)).2
  obtain ⟨la, lc, rfl, hlc1, hlc2⟩ := hl.reads.form
  obtain ⟨ra, rc, rfl, hr1, hr2⟩ := h.nreads.form
  obtain ⟨ga, gc, rfl, hg1, hg2⟩ := rr_form h.rreads
  rw [List.length_map] at HT HBX hl hg1
  have HLK : Hid (EKeep w (Xs p (.slice ra L.length rc) (.slice ga GV.length gc)) (.slice la l.length lc) l) := hl
  have HST : Hid (∀ W, Below w.heap.size w W → Calls Tryz.prog 11 #[.agg #[.slice R.a R.len R.cap, .int .i64 R.kp], .int .i64 wm, .slice la l.length lc] W (SlPost R wm l W)) := fun W hW =>
    stale_any R wm _ l W (hL.at hW) (hl.reads.below hW) (by omega) (fun x hx => by have := hl2 x hx; omega)
  unfold maxLen at hlc2 hr2 hg2
  have HPO : Hid (∀ st ch e w', st = stB R wm l → ch = chkF R wm l → (e = .returned (.bool (decide (ch = 0))) ∧ Below base w w' ∧ ∃ rv' gv', TrAt R wm base p w' rv' gv' (L ++ [⟨(GV.length : Int), 0, (l.length : Int), st⟩]) (GV ++ [(.slice la l.length lc, l)])) → AdP R wm base p L GV (.slice la l.length lc) l w e w') := by
    intro st ch e w' h1 h2 h3
    subst h1 h2
    exact h3
  unfold SlPost at HST
  obtain ⟨st, Hst⟩ := hid_ex (stB R wm l)
  obtain ⟨ch, Hch⟩ := hid_ex (chkF R wm l)
  rw [← Hst.out, ← Hch.out] at HST
  have HPP : Hid (∀ e w', (e = .returned (.bool (decide (ch = 0))) ∧ Below base w w' ∧ ∃ rv' gv', TrAt R wm base p w' rv' gv' (L ++ [⟨(GV.length : Int), 0, (l.length : Int), st⟩]) (GV ++ [(.slice la l.length lc, l)])) → AdP R wm base p L GV (.slice la l.length lc) l w e w') := fun e w' => HPO.out st ch e w' Hst.out Hch.out
  obtain ⟨P, HP⟩ := hid_ex (AdP R wm base p L GV (.slice la l.length lc) l w)
  rw [← HP.out] at HPP ⊢
  obtain ⟨n, Hn⟩ := hid_ex L.length
  obtain ⟨gn, Hgn⟩ := hid_ex GV.length
  obtain ⟨ln, Hln⟩ := hid_ex l.length
  rw [← Hn.out, ← Hgn.out] at HT HBX HLK
  rw [← Hln.out] at HLK HST HPP
  rw [← Hgn.out] at HPP hg1 hn2
  rw [← Hn.out] at hr1 hn1
  rw [← Hln.out] at hl1 hlc1 ⊢
  clear h hl hL hl2 HPO HP Hst Hch
  go_enter Tryz.func6, Tryz.ntmps6
  go_wp2_with fail
  refine wp_region_noPanic ?_
  refine wp_region_held_drew (S := (fun w' => Below w.heap.size w w')) (by kernel_rfl) ?_ (fun hHeld => ?_)
  · exact (Below.refl _ _).drew
  refine wpAnyH_take (i := 0) (v := .pointer (some ⟨p, 0, none⟩)) rfl (by kernel_rfl) (by kernel_rfl) (by kernel_rfl) (fun _ _ _ h => h) (Or.inl ⟨by rfl, ?_⟩) (by assumption) ?_
  · (intro w1 hSw; (try dsimp only at hSw); go_simp)
  simp only [List.getElem_toArray, List.getElem_cons_zero, Act.put, List.setIfInBounds_toArray, List.set_cons_zero, List.set_cons_succ]
  refine wpAnyH_take (i := 1) (v := .pointer (some ⟨p, 0, none⟩)) rfl (by kernel_rfl) (by kernel_rfl) (by kernel_rfl) (fun _ _ _ h => h) (Or.inl ⟨by rfl, ?_⟩) (by assumption) ?_
  · (intro w1 hSw; (try dsimp only at hSw); go_simp)
  simp only [List.getElem_toArray, List.getElem_cons_succ, List.getElem_cons_zero, Act.put, List.setIfInBounds_toArray, List.set_cons_zero, List.set_cons_succ]
  refine wpAnyH_take (i := 2) (v := .pointer (some ⟨p, 0, none⟩)) rfl (by kernel_rfl) (by kernel_rfl) (by kernel_rfl) (fun _ _ _ h => h) (Or.inl ⟨by rfl, ?_⟩) (by assumption) ?_
  · (intro w1 hSw; (try dsimp only at hSw); go_simp)
  simp only [List.getElem_toArray, List.getElem_cons_succ, List.getElem_cons_zero, Act.put, List.setIfInBounds_toArray, List.set_cons_zero, List.set_cons_succ]
  refine wpAnyH_take (i := 3) (v := .agg #[.slice R.a R.len R.cap, .int .i64 R.kp]) rfl (by kernel_rfl) (by kernel_rfl) (by kernel_rfl) (fun _ _ _ h => h) (Or.inl ⟨by rfl, ?_⟩) (by assumption) ?_
  · (intro w1 hSw; (try dsimp only at hSw); have gx := (hSw.block _ hpl).trans HBX.out; have g0 := (cell_row gx 0 (by simp)).1; have g1 := (cell_row gx 1 (by simp)).1; simp only [List.getElem_toArray, List.getElem_cons_zero, List.getElem_cons_succ] at g0 g1; go_simp)
  simp only [List.getElem_toArray, List.getElem_cons_succ, List.getElem_cons_zero, Act.put, List.setIfInBounds_toArray, List.set_cons_zero, List.set_cons_succ]
  refine wpAnyH_take (i := 4) (v := .pointer (some ⟨p, 0, none⟩)) rfl (by kernel_rfl) (by kernel_rfl) (by kernel_rfl) (fun _ _ _ h => h) (Or.inl ⟨by rfl, ?_⟩) (by assumption) ?_
  · (intro w1 hSw; (try dsimp only at hSw); go_simp)
  simp only [List.getElem_toArray, List.getElem_cons_succ, List.getElem_cons_zero, Act.put, List.setIfInBounds_toArray, List.set_cons_zero, List.set_cons_succ]
  refine wpAnyH_take (i := 5) (v := .pointer (some ⟨p, 0, none⟩)) rfl (by kernel_rfl) (by kernel_rfl) (by kernel_rfl) (fun _ _ _ h => h) (Or.inl ⟨by rfl, ?_⟩) (by assumption) ?_
  · (intro w1 hSw; (try dsimp only at hSw); go_simp)
  simp only [List.getElem_toArray, List.getElem_cons_succ, List.getElem_cons_zero, Act.put, List.setIfInBounds_toArray, List.set_cons_zero, List.set_cons_succ]
  refine wpAnyH_take (i := 6) (v := .pointer (some ⟨p, 2, none⟩)) rfl (by kernel_rfl) (by kernel_rfl) (by kernel_rfl) (fun _ _ _ h => h) (Or.inl ⟨by rfl, ?_⟩) (by assumption) ?_
  · (intro w1 hSw; (try dsimp only at hSw); go_simp)
  simp only [List.getElem_toArray, List.getElem_cons_succ, List.getElem_cons_zero, Act.put, List.setIfInBounds_toArray, List.set_cons_zero, List.set_cons_succ]
  refine wpAnyH_take (i := 7) (v := .int .i64 wm) rfl (by kernel_rfl) (by kernel_rfl) (by kernel_rfl) (fun _ _ _ h => h) (Or.inl ⟨by rfl, ?_⟩) (by assumption) ?_
  · (intro w1 hSw; (try dsimp only at hSw); have gx := (hSw.block _ hpl).trans HBX.out; have g0 := (cell_row gx 2 (by simp)).1; simp only [List.getElem_toArray, List.getElem_cons_zero, List.getElem_cons_succ] at g0; go_simp)
  simp only [List.getElem_toArray, List.getElem_cons_succ, List.getElem_cons_zero, Act.put, List.setIfInBounds_toArray, List.set_cons_zero, List.set_cons_succ]
  refine wpAnyH_take (i := 8) (v := .slice la ln lc) rfl (by kernel_rfl) (by kernel_rfl) (by kernel_rfl) (fun _ _ _ h => h) (Or.inl ⟨by rfl, ?_⟩) (by assumption) ?_
  · (intro w1 hSw; (try dsimp only at hSw); go_simp)
  simp only [List.getElem_toArray, List.getElem_cons_succ, List.getElem_cons_zero, Act.put, List.setIfInBounds_toArray, List.set_cons_zero, List.set_cons_succ]
  refine wpAnyH_ready (rs := [9]) (by kernel_rfl) (by simp) ?_
  refine AllReadyH.cons (o := _) rfl (fun K hK => ?_) AllReadyH.nil
  go_simp
  refine (HST.out _ (Below.refl _ _).drew).mono ?_
  clear HST
  rintro e W1 ⟨rfl, hb1⟩
  have HW1 : Hid (Below w.heap.size w W1) := (Below.refl w.heap.size w).drew.trans hb1
  clear hb1
  refine hK.out _ _ ?_ (fun hHeld => ?_)
  · exact HW1.out
  clear hK K
  refine wpAnyH_take (i := 10) (v := .tuple #[.bool st, .int .i64 ch]) rfl (by kernel_rfl) (by kernel_rfl) (by kernel_rfl) (fun _ _ _ h => h) (Or.inl ⟨by rfl, ?_⟩) (by assumption) ?_
  · (intro w1 hSw; (try dsimp only at hSw); go_simp)
  simp only [List.getElem_toArray, List.getElem_cons_succ, List.getElem_cons_zero, Act.put, List.setIfInBounds_toArray, List.set_cons_zero, List.set_cons_succ]
  refine wpAnyH_take (i := 11) (v := .bool st) rfl (by kernel_rfl) (by kernel_rfl) (by kernel_rfl) (fun _ _ _ h => h) (Or.inl ⟨by rfl, ?_⟩) (by assumption) ?_
  · (intro w1 hSw; (try dsimp only at hSw); go_simp)
  simp only [List.getElem_toArray, List.getElem_cons_succ, List.getElem_cons_zero, Act.put, List.setIfInBounds_toArray, List.set_cons_zero, List.set_cons_succ]
  refine wpAnyH_take (i := 12) (v := .int .i64 ch) rfl (by kernel_rfl) (by kernel_rfl) (by kernel_rfl) (fun _ _ _ h => h) (Or.inl ⟨by rfl, ?_⟩) (by assumption) ?_
  · (intro w1 hSw; (try dsimp only at hSw); go_simp)
  simp only [List.getElem_toArray, List.getElem_cons_succ, List.getElem_cons_zero, Act.put, List.setIfInBounds_toArray, List.set_cons_zero, List.set_cons_succ]
  refine wpAnyH_take (i := 13) (v := .bool st) rfl (by kernel_rfl) (by kernel_rfl) (by kernel_rfl) (fun _ _ _ h => h) (Or.inl ⟨by rfl, ?_⟩) (by assumption) ?_
  · (intro w1 hSw; (try dsimp only at hSw); go_simp)
  simp only [List.getElem_toArray, List.getElem_cons_succ, List.getElem_cons_zero, Act.put, List.setIfInBounds_toArray, List.set_cons_zero, List.set_cons_succ]
  refine wpAnyH_take (i := 14) (v := .int .i64 ch) rfl (by kernel_rfl) (by kernel_rfl) (by kernel_rfl) (fun _ _ _ h => h) (Or.inl ⟨by rfl, ?_⟩) (by assumption) ?_
  · (intro w1 hSw; (try dsimp only at hSw); go_simp)
  simp only [List.getElem_toArray, List.getElem_cons_succ, List.getElem_cons_zero, Act.put, List.setIfInBounds_toArray, List.set_cons_zero, List.set_cons_succ]
  clear hHeld
  refine wpAnyH_done (by kernel_rfl) ?_ _
  refine NoPanic.normal ?_
  have HT1 : Hid (TrAt R wm base p W1 (.slice ra n rc) (.slice ga gn gc) L GV) := HT.out.below HW1.out
  have hb1 : base ≤ W1.heap.size := Nat.le_trans hb HW1.out.size
  obtain ⟨v2, w2, hrun2, ⟨va, vc, hv2⟩, hs2, hp2, hk2, hbl2, hv8, hZ2⟩ := HT1.out.row hb1 (lv := .slice la ln lc) (l := l) (HLK.out.next HW1.out.size (fun b hb _ => HW1.out.block b hb) (fun _ _ q => q)) rfl (by rw [← Hgn.out]; omega)
  rw [← Hgn.out] at hv2
  subst hv2
  have HZ2 : Hid (TrAt R wm base p (w2.setCell ⟨p, 4, none⟩ (.slice va (gn + 1) vc)) (.slice ra n rc) (.slice va (gn + 1) vc) L (GV ++ [(.slice la ln lc, l)])) := hZ2
  have HX1 : Hid (W1.heap[p]? = some (.cells #[.slice R.a R.len R.cap, .int .i64 R.kp, .int .i64 wm, .slice ra n rc, .slice ga gn gc] 29)) := HT1.out.bx
  have d4 := (cell_row HX1.out 4 (by simp)).1
  simp only [List.getElem_toArray, List.getElem_cons_zero, List.getElem_cons_succ] at d4
  have HX2 : Hid (w2.heap[p]? = some (.cells #[.slice R.a R.len R.cap, .int .i64 R.kp, .int .i64 wm, .slice ra n rc, .slice ga gn gc] 29)) := hp2.trans HX1.out
  obtain ⟨e4, f4⟩ := cell_row HX2.out 4 (by simp)
  simp only [List.getElem_toArray, List.getElem_cons_zero, List.getElem_cons_succ] at e4
  have HB2 : Hid (Below base W1 w2) := hbl2
  have hbp : base ≤ p := (HT1.out.lo p (.inl rfl)).1
  obtain ⟨w3, HW3⟩ := hid_ex (w2.setCell ⟨p, 4, none⟩ (.slice va (gn + 1) vc))
  have HB3 : Hid (Below base w w3) := by
    rw [HW3.out]
    refine (HW1.out.mono hb).trans (HB2.out.trans ?_)
    exact (Below.refl base w2).setCell hbp _
  clear hs2 hp2 hk2 hbl2 hv8 hZ2
  go_wp2_with (at_builtin; refine wpList_app_runT rfl (.tmp 26) (.tmp 28) _ _ rfl rfl _ _ _ rfl rfl hrun2 ?_)
  rw [← HW3.out]
  have HT3 : Hid (TrAt R wm base p w3 (.slice ra n rc) (.slice va (gn + 1) vc) L (GV ++ [(.slice la ln lc, l)])) := by rw [HW3.out]; exact HZ2.out
  have HX3 : Hid (w3.heap[p]? = some (.cells #[.slice R.a R.len R.cap, .int .i64 R.kp, .int .i64 wm, .slice ra n rc, .slice va (gn + 1) vc] 29)) := HT3.out.bx
  clear d4 e4 f4 hrun2 HZ2 HX2 HX1 HB2 HT1 HW3
  have hb3 : base ≤ w3.heap.size := Nat.le_trans hbp (Nat.le_of_lt (Array.getElem?_eq_some_iff.1 HX3.out).1)
  have hbd : Below w3.heap.size w3 w3.drew := (Below.refl _ _).drew
  obtain ⟨v4, w4, hrun4, ⟨ua, uc, hv4⟩, hs4, hp4, hk4, hbl4, hZ4⟩ := (HT3.out.below hbd).run (Nat.le_trans hb3 hbd.size) (r := ⟨(gn : Int), 0, (ln : Int), st⟩) ⟨by (first | (simp; done) | (simp; omega)), by (first | (simp; done) | (simp; omega)), by simp, by simp, by (first | (simp; done) | (simp; omega)), by (first | (simp; done) | (simp; omega))⟩ (by have := Hn.out; omega)
  rw [← Hn.out] at hv4
  subst hv4
  have hrun5 : (Builtin.append_ #[27, 27] 27 #[.slice ra n rc, .slice (some ⟨w3.heap.size, 0, none⟩) 1 1]).run Tryz.prog (w3.drew.alloc (.cells #[.int .i64 (gn : Int), .int .i64 0, .int .i64 (ln : Int), .bool st] 47)) = .ok (.slice ua (n + 1) uc) w4 := hrun4
  have HZ4 : Hid (TrAt R wm base p (w4.setCell ⟨p, 3, none⟩ (.slice ua (n + 1) uc)) (.slice ua (n + 1) uc) (.slice va (gn + 1) vc) (L ++ [⟨(gn : Int), 0, (ln : Int), st⟩]) (GV ++ [(.slice la ln lc, l)])) := hZ4
  have HX4 : Hid (w4.heap[p]? = some (.cells #[.slice R.a R.len R.cap, .int .i64 R.kp, .int .i64 wm, .slice ra n rc, .slice va (gn + 1) vc] 29)) := hp4.trans HX3.out
  have HB4 : Hid (Below base w (w4.setCell ⟨p, 3, none⟩ (.slice ua (n + 1) uc))) := (HB3.out.trans ((hbd.mono hb3).trans hbl4)).setCell hbp _
  have c3 := (cell_row HX3.out 3 (by simp)).1
  have c4 := (cell_row HX3.out 4 (by simp)).1
  have d3 := (cell_row HX4.out 3 (by simp)).1
  have f3 := (cell_row HX4.out 3 (by simp)).2
  have d4 := (cell_row HX4.out 4 (by simp)).1
  simp only [List.getElem_toArray, List.getElem_cons_zero, List.getElem_cons_succ] at c3 c4 d3 d4
  have hpl3 : p < w3.heap.size := (Array.getElem?_eq_some_iff.1 HX3.out).1
  have HA3 : Hid ((w3.drew.alloc (.cells #[.int .i64 (gn : Int), .int .i64 0, .int .i64 (ln : Int), .bool st] 47)).heap[p]? = some (.cells #[.slice R.a R.len R.cap, .int .i64 R.kp, .int .i64 wm, .slice ra n rc, .slice va (gn + 1) vc] 29)) := (Below.heap_alloc w3.drew _ p hpl3).trans HX3.out
  have a3 := (cell_row HA3.out 3 (by simp)).1
  have a4 := (cell_row HA3.out 4 (by simp)).1
  simp only [List.getElem_toArray, List.getElem_cons_zero, List.getElem_cons_succ] at a3 a4
  have hwr1 : IntKind.i64.wrap ((gn : Int) + 1 - 1) = (gn : Int) := by simp [IntKind.wrap, IntKind.bits, IntKind.signed]; omega
  have hwr2 : IntKind.i64.wrap (gn : Int) = (gn : Int) := by simp [IntKind.wrap, IntKind.bits, IntKind.signed]; omega
  clear hs4 hp4 hk4 hbl4 hZ4 hrun4
  (try go_wp2_with fail)
  refine wp_region_noPanic ?_
  refine wp_region_S 20 (fun _ => True) (fun w' => w'.cell? ⟨p, 3, none⟩ = some (.slice ra n rc) ∧ w'.cell? ⟨p, 4, none⟩ = some (.slice va (gn + 1) vc)) (by kernel_rfl) ?_ ?_ (fun hHeld => ?_)
  · trivial
  · exact ⟨c3, c4⟩
  refine wpAnyS_take (i := 0) (v := .pointer (some ⟨p, 0, none⟩)) _ rfl (by kernel_rfl) (by kernel_rfl) (by kernel_rfl) (by kernel_rfl) (by kernel_rfl) rfl (fun _ _ _ h => h) (Or.inl ⟨by rfl, ?_⟩) hHeld (fun hHeld => ?_)
  · (intro w1 hSw; have hSw := hSw.1; (try dsimp only at hSw); go_simp)
  simp only [List.getElem_toArray, List.getElem_cons_zero, Act.put, List.setIfInBounds_toArray, List.set_cons_zero, List.set_cons_succ]
  refine wpAnyS_take (i := 1) (v := .pointer (some ⟨p, 0, none⟩)) _ rfl (by kernel_rfl) (by kernel_rfl) (by kernel_rfl) (by kernel_rfl) (by kernel_rfl) rfl (fun _ _ _ h => h) (Or.inl ⟨by rfl, ?_⟩) hHeld (fun hHeld => ?_)
  · (intro w1 hSw; have hSw := hSw.1; (try dsimp only at hSw); go_simp)
  simp only [List.getElem_toArray, List.getElem_cons_succ, List.getElem_cons_zero, Act.put, List.setIfInBounds_toArray, List.set_cons_zero, List.set_cons_succ]
  refine wpAnyS_take (i := 2) (v := .pointer (some ⟨p, 0, none⟩)) _ rfl (by kernel_rfl) (by kernel_rfl) (by kernel_rfl) (by kernel_rfl) (by kernel_rfl) rfl (fun _ _ _ h => h) (Or.inl ⟨by rfl, ?_⟩) hHeld (fun hHeld => ?_)
  · (intro w1 hSw; have hSw := hSw.1; (try dsimp only at hSw); go_simp)
  simp only [List.getElem_toArray, List.getElem_cons_succ, List.getElem_cons_zero, Act.put, List.setIfInBounds_toArray, List.set_cons_zero, List.set_cons_succ]
  refine wpAnyS_take (i := 3) (v := .pointer (some ⟨p, 3, none⟩)) _ rfl (by kernel_rfl) (by kernel_rfl) (by kernel_rfl) (by kernel_rfl) (by kernel_rfl) rfl (fun _ _ _ h => h) (Or.inl ⟨by rfl, ?_⟩) hHeld (fun hHeld => ?_)
  · (intro w1 hSw; have hSw := hSw.1; (try dsimp only at hSw); go_simp)
  simp only [List.getElem_toArray, List.getElem_cons_succ, List.getElem_cons_zero, Act.put, List.setIfInBounds_toArray, List.set_cons_zero, List.set_cons_succ]
  refine wpAnyS_take (i := 4) (v := .slice ra n rc) true rfl (by kernel_rfl) (by kernel_rfl) (by kernel_rfl) (by kernel_rfl) (by kernel_rfl) (by kernel_rfl) (fun _ _ _ h => h) (Or.inl ⟨by rfl, ?_⟩) hHeld (fun hHeld => ?_)
  · (intro w1 hSw; have hSw2 := hSw.2 rfl; have hSw := hSw.1; (try dsimp only at hSw hSw2); go_simp)
  simp only [List.getElem_toArray, List.getElem_cons_succ, List.getElem_cons_zero, Act.put, List.setIfInBounds_toArray, List.set_cons_zero, List.set_cons_succ]
  refine wpAnyS_take (i := 5) (v := .pointer (some ⟨p, 0, none⟩)) _ rfl (by kernel_rfl) (by kernel_rfl) (by kernel_rfl) (by kernel_rfl) (by kernel_rfl) rfl (fun _ _ _ h => h) (Or.inl ⟨by rfl, ?_⟩) hHeld (fun hHeld => ?_)
  · (intro w1 hSw; have hSw := hSw.1; (try dsimp only at hSw); go_simp)
  simp only [List.getElem_toArray, List.getElem_cons_succ, List.getElem_cons_zero, Act.put, List.setIfInBounds_toArray, List.set_cons_zero, List.set_cons_succ]
  refine wpAnyS_take (i := 6) (v := .pointer (some ⟨p, 0, none⟩)) _ rfl (by kernel_rfl) (by kernel_rfl) (by kernel_rfl) (by kernel_rfl) (by kernel_rfl) rfl (fun _ _ _ h => h) (Or.inl ⟨by rfl, ?_⟩) hHeld (fun hHeld => ?_)
  · (intro w1 hSw; have hSw := hSw.1; (try dsimp only at hSw); go_simp)
  simp only [List.getElem_toArray, List.getElem_cons_succ, List.getElem_cons_zero, Act.put, List.setIfInBounds_toArray, List.set_cons_zero, List.set_cons_succ]
  refine wpAnyS_take (i := 7) (v := .pointer (some ⟨p, 4, none⟩)) _ rfl (by kernel_rfl) (by kernel_rfl) (by kernel_rfl) (by kernel_rfl) (by kernel_rfl) rfl (fun _ _ _ h => h) (Or.inl ⟨by rfl, ?_⟩) hHeld (fun hHeld => ?_)
  · (intro w1 hSw; have hSw := hSw.1; (try dsimp only at hSw); go_simp)
  simp only [List.getElem_toArray, List.getElem_cons_succ, List.getElem_cons_zero, Act.put, List.setIfInBounds_toArray, List.set_cons_zero, List.set_cons_succ]
  refine wpAnyS_take (i := 8) (v := .slice va (gn + 1) vc) true rfl (by kernel_rfl) (by kernel_rfl) (by kernel_rfl) (by kernel_rfl) (by kernel_rfl) (by kernel_rfl) (fun _ _ _ h => h) (Or.inl ⟨by rfl, ?_⟩) hHeld (fun hHeld => ?_)
  · (intro w1 hSw; have hSw2 := hSw.2 rfl; have hSw := hSw.1; (try dsimp only at hSw hSw2); go_simp)
  simp only [List.getElem_toArray, List.getElem_cons_succ, List.getElem_cons_zero, Act.put, List.setIfInBounds_toArray, List.set_cons_zero, List.set_cons_succ]
  refine wpAnyS_take (i := 9) (v := .int .i64 ((gn : Int) + 1)) _ rfl (by kernel_rfl) (by kernel_rfl) (by kernel_rfl) (by kernel_rfl) (by kernel_rfl) rfl (fun _ _ _ h => h) (Or.inl ⟨by rfl, ?_⟩) hHeld (fun hHeld => ?_)
  · (intro w1 hSw; have hSw := hSw.1; (try dsimp only at hSw); go_simp)
  simp only [List.getElem_toArray, List.getElem_cons_succ, List.getElem_cons_zero, Act.put, List.setIfInBounds_toArray, List.set_cons_zero, List.set_cons_succ]
  refine wpAnyS_take (i := 10) (v := .int .i64 (gn : Int)) _ rfl (by kernel_rfl) (by kernel_rfl) (by kernel_rfl) (by kernel_rfl) (by kernel_rfl) rfl (fun _ _ _ h => h) (Or.inl ⟨by rfl, ?_⟩) hHeld (fun hHeld => ?_)
  · (intro w1 hSw; have hSw := hSw.1; (try dsimp only at hSw); go_simp)
  simp only [List.getElem_toArray, List.getElem_cons_succ, List.getElem_cons_zero, Act.put, List.setIfInBounds_toArray, List.set_cons_zero, List.set_cons_succ]
  refine wpAnyS_take (i := 11) (v := .int .i64 0) _ rfl (by kernel_rfl) (by kernel_rfl) (by kernel_rfl) (by kernel_rfl) (by kernel_rfl) rfl (fun _ _ _ h => h) (Or.inl ⟨by rfl, ?_⟩) hHeld (fun hHeld => ?_)
  · (intro w1 hSw; have hSw := hSw.1; (try dsimp only at hSw); go_simp)
  simp only [List.getElem_toArray, List.getElem_cons_succ, List.getElem_cons_zero, Act.put, List.setIfInBounds_toArray, List.set_cons_zero, List.set_cons_succ]
  refine wpAnyS_take (i := 12) (v := .slice la ln lc) _ rfl (by kernel_rfl) (by kernel_rfl) (by kernel_rfl) (by kernel_rfl) (by kernel_rfl) rfl (fun _ _ _ h => h) (Or.inl ⟨by rfl, ?_⟩) hHeld (fun hHeld => ?_)
  · (intro w1 hSw; have hSw := hSw.1; (try dsimp only at hSw); go_simp)
  simp only [List.getElem_toArray, List.getElem_cons_succ, List.getElem_cons_zero, Act.put, List.setIfInBounds_toArray, List.set_cons_zero, List.set_cons_succ]
  refine wpAnyS_take (i := 13) (v := .int .i64 (ln : Int)) _ rfl (by kernel_rfl) (by kernel_rfl) (by kernel_rfl) (by kernel_rfl) (by kernel_rfl) rfl (fun _ _ _ h => h) (Or.inl ⟨by rfl, ?_⟩) hHeld (fun hHeld => ?_)
  · (intro w1 hSw; have hSw := hSw.1; (try dsimp only at hSw); go_simp)
  simp only [List.getElem_toArray, List.getElem_cons_succ, List.getElem_cons_zero, Act.put, List.setIfInBounds_toArray, List.set_cons_zero, List.set_cons_succ]
  refine wpAnyS_take (i := 14) (v := .bool st) _ rfl (by kernel_rfl) (by kernel_rfl) (by kernel_rfl) (by kernel_rfl) (by kernel_rfl) rfl (fun _ _ _ h => h) (Or.inl ⟨by rfl, ?_⟩) hHeld (fun hHeld => ?_)
  · (intro w1 hSw; have hSw := hSw.1; (try dsimp only at hSw); go_simp)
  simp only [List.getElem_toArray, List.getElem_cons_succ, List.getElem_cons_zero, Act.put, List.setIfInBounds_toArray, List.set_cons_zero, List.set_cons_succ]
  refine wpAnyS_take (i := 15) (v := .agg #[.int .i64 (gn : Int), .int .i64 0, .int .i64 (ln : Int), .bool st]) _ rfl (by kernel_rfl) (by kernel_rfl) (by kernel_rfl) (by kernel_rfl) (by kernel_rfl) rfl (fun _ _ _ h => h) (Or.inl ⟨by rfl, ?_⟩) hHeld (fun hHeld => ?_)
  · (intro w1 hSw; have hSw := hSw.1; (try dsimp only at hSw); go_simp)
  simp only [List.getElem_toArray, List.getElem_cons_succ, List.getElem_cons_zero, Act.put, List.setIfInBounds_toArray, List.set_cons_zero, List.set_cons_succ]
  refine wpAnyS_ready (i := 16) (by kernel_rfl) rfl (fun K hK => ?_)
  go_simp
  refine hK.out _ _ ⟨?_, fun _ => ?_⟩ (fun hHeld => ?_)
  · trivial
  · exact ⟨a3, a4⟩
  clear hK K
  refine wpAnyS_ready (i := 17) (by kernel_rfl) rfl (fun K hK => ?_)
  refine wp_app_runT (.tmp 36) (.tmp 48) 27 27 rfl rfl _ _ _ (by simp [Act.eval]) (by simp [Act.eval]) hrun5 ?_
  simp only [List.getElem_toArray, List.getElem_cons_succ, List.getElem_cons_zero, Act.put, List.setIfInBounds_toArray, List.set_cons_zero, List.set_cons_succ]
  refine hK.out _ _ ⟨?_, fun _ => ?_⟩ (fun hHeld => ?_)
  · trivial
  · exact ⟨d3, d4⟩
  clear hK K
  refine wpAnyS_take (i := 18) (v := .pointer (some ⟨p, 0, none⟩)) _ rfl (by kernel_rfl) (by kernel_rfl) (by kernel_rfl) (by kernel_rfl) (by kernel_rfl) rfl (fun _ _ _ h => h) (Or.inl ⟨by rfl, ?_⟩) hHeld (fun hHeld => ?_)
  · (intro w1 hSw; have hSw := hSw.1; (try dsimp only at hSw); go_simp)
  simp only [List.getElem_toArray, List.getElem_cons_succ, List.getElem_cons_zero, Act.put, List.setIfInBounds_toArray, List.set_cons_zero, List.set_cons_succ]
  refine wpAnyS_take (i := 19) (v := .pointer (some ⟨p, 3, none⟩)) _ rfl (by kernel_rfl) (by kernel_rfl) (by kernel_rfl) (by kernel_rfl) (by kernel_rfl) rfl (fun _ _ _ h => h) (Or.inl ⟨by rfl, ?_⟩) hHeld (fun hHeld => ?_)
  · (intro w1 hSw; have hSw := hSw.1; (try dsimp only at hSw); go_simp)
  simp only [List.getElem_toArray, List.getElem_cons_succ, List.getElem_cons_zero, Act.put, List.setIfInBounds_toArray, List.set_cons_zero, List.set_cons_succ]
  refine wpAnyS_ready (i := 20) (by kernel_rfl) rfl (fun K hK => ?_)
  go_simp
  refine hK.out _ _ ⟨?_, fun hno => absurd hno (by decide)⟩ (fun hHeld => ?_)
  · trivial
  clear hK K
  refine wpAnyS_done (by kernel_rfl) ?_ _
  refine NoPanic.normal ?_
  have HEnd : Hid (P (.returned (.bool (decide (ch = 0)))) (w4.setCell ⟨p, 3, none⟩ (.slice ua (n + 1) uc))) := HPP.out _ _ ⟨rfl, HB4.out, _, _, HZ4.out⟩
  clear c3 c4 d3 f3 d4 a3 a4 hrun5 HZ4 HX4 HB4 HA3 HX3 HT3 HPP
  by_cases hch : ch = 0
  · have hcb : (ch == 0) = true := by simp [hch]
    have hcd : decide (ch = 0) = true := decide_eq_true hch
    rw [hcd] at HEnd
    subst hch
    go_wp2_with fail
    exact HEnd.out
  · have hcb : (ch == 0) = false := by simp [hch]
    have hcd : decide (ch = 0) = false := decide_eq_false hch
    rw [hcd] at HEnd
    go_wp2_with fail
    exact HEnd.out
end Go.Proofs.YthicmbjiblbcmaaGreat
