/- PT4, joined. -/
import Derived.Test.YthicmbjiblbcmaaGreatTQ4
import Derived.Test.YthicmbjiblbcmaaGreatTQ31
/- TopTree: a task is done. -/
namespace Go.Proofs.YthicmbjiblbcmaaGreat
open Go.RowKit

/-- What do does. -/
def DoP (R : Rl) (wm : Int) (base p : Nat) (rv gv : Value) (L : List Rn) (GV : List (Value × List En)) (w : World) (e : Ending) (w' : World) : Prop :=
  e = .returned (.bool true) ∧ Below base w w' ∧ ∃ rv' gv' M lv l, TrAt R wm base p w' rv' gv' M (GV ++ [(lv, l)]) ∧ TInv R wm M ((GV ++ [(lv, l)]).map Prod.snd) 480 ∧ kowT R wm M ((GV ++ [(lv, l)]).map Prod.snd) = kowT R wm L (GV.map Prod.snd) ∧ mu M + 1 ≤ mu L ∧ ∀ v K, EKeep w (Xs p rv gv) v K → EKeep w' (Xs p rv' gv') v K
set_option maxRecDepth 100000 in
set_option maxHeartbeats 8000000 in
theorem doT_any {R : Rl} {wm : Int} {base p : Nat} {w : World} {rv gv fv : Value} {L : List Rn} {GV : List (Value × List En)} (h : TrAt R wm base p w rv gv L GV) (hI : TInv R wm L (GV.map Prod.snd) 480) (hb : base ≤ w.heap.size) (hL : Lies R w.heap.size w) (hs : (offT L).s = true) (hF : ReadsP w fv (offT L).fs) (hfe : fE R 0 wm = 0) (hR : RightP R) (hn2 : GV.length ≤ 100) (hn3 : 1 ≤ GV.length) :
    Calls Tryz.prog 9 #[.pointer (some ⟨p, 0, none⟩), .agg #[fv, .int .i64 (offT L).lv]] w (DoP R wm base p rv gv L GV w) := by
  have HT : Hid (TrAt R wm base p w rv gv L GV) := h
  have HL : Hid (Lies R w.heap.size w) := hL
  have hpl := (h.lo p (.inl rfl)).2
  have HBX := (show Hid _ from h.bx)
  have hTk := off_ok hI.ok hs
  obtain ⟨hl0, hl3⟩ := And.intro hTk.l0 hTk.l3
  have h64 : L.length ≤ 64 := hI.ok.1
  obtain ⟨G, HG⟩ := hid_ex (GV.map Prod.snd)
  have hGl : GV.length = G.length := by rw [HG.out, List.length_map]
  have HRR : Hid (RReads w gv G) := by rw [HG.out]; exact h.rreads
  have HNR : Hid (NReads w rv L) := h.nreads
  rw [← HG.out] at hI
  obtain ⟨rs, Hrs⟩ := hid_ex ((offT L).fs.map (rwT G))
  obtain ⟨l, Hl⟩ := hid_ex (foldF R wm (allF rs))
  obtain ⟨hfin, hrk, hrn, M, haf, hIM, hkM, hmM⟩ := tree_step hI hfe hR hs (by omega) Hrs.out Hl.out
  have hfl : (offT L).fs.length ≤ 64 := by
    have h1 := (split_perm (okR_uq hI.ok) hTk.nd hTk.nm (M := L.filter fun r => !decide (r.f ∈ (offT L).fs)) List.filter_sublist (fun r => by simp) G).length_eq
    rw [List.length_append, List.length_map, rowsT_len] at h1
    omega
  have HEND : Hid (∀ rv' gv' lv w', Below base w w' → TrAt R wm base p w' rv' gv' M (GV ++ [(lv, l)]) → (∀ v K, EKeep w (Xs p rv gv) v K → EKeep w' (Xs p rv' gv') v K) → DoP R wm base p rv gv L GV w (.returned (.bool true)) w') := fun rv' gv' lv w' h1 h2 h3 => by
    refine ⟨rfl, h1, rv', gv', M, lv, l, h2, ?_, ?_, hmM, h3⟩
    · rw [List.map_append, ← HG.out]; exact hIM
    · rw [List.map_append, ← HG.out]; exact hkM
  have HSM : Hid _ := rows_small hrk hrn
  have HOK : Hid (RowsOk R wm rs) := rows_ok15 hrk
  have hck : chkF R wm (allF rs) = 0 := chkF_of hfe HOK.out.sa HOK.out.fa
  have HCK : Hid (chkF R wm (allF rs) = 0) := hck
  obtain ⟨fs, Hfs⟩ := hid_ex (offT L).fs
  obtain ⟨tl, Htl⟩ := hid_ex (offT L).lv
  rw [← Hfs.out] at hF hfin haf hfl Hrs
  rw [← Htl.out] at haf hl0 hl3 ⊢
  have HAF : Hid (∀ fv W, NReads W rv L → ReadsP W fv fs → Calls Tryz.prog 19 #[rv, .agg #[fv, .int .i64 tl], .int .i64 (G.length : Int), .int .i64 (l.length : Int)] W fun e w' => Below W.heap.size W w' ∧ ∃ v', e = .returned (.tuple #[v', .int .i64 0]) ∧ NOwn 47 w' W.heap.size v' M) := fun fv W h1 h2 => by
    have h3 := after_any rv fv L fs tl (G.length : Int) (l.length : Int) W h1 h2 (by omega) (by omega) (by omega) (by
      have h4 : l.length ≤ 480 := by rw [Hl.out]; exact Nat.le_trans (foldF_len _ _ _) (Nat.le_trans HOK.out.l hrn)
      omega)
    rw [haf] at h3
    exact h3
  have HFI : Hid (∀ f ∈ fs, 1 ≤ f ∧ f.toNat < G.length) := hfin
  obtain ⟨ra, rc, rfl, hr1, hr2⟩ := HNR.out.form
  obtain ⟨ga, gc, rfl, hg1, hg2⟩ := rr_form HRR.out
  obtain ⟨fa, fc, rfl, hfc⟩ := hF.form
  have HF : Hid (ReadsP w (.slice fa fs.length fc) fs) := hF
  unfold maxLen at hr2 hg2 hfc
  obtain ⟨A, HA⟩ := hid_ex (allF rs)
  have HSA : Hid (A.length ≤ 100000 ∧ ∀ x ∈ A, x.1.length ≤ 1000) := by rw [HA.out]; exact HSM.out.2.2
  rw [← HA.out] at HCK Hl
  obtain ⟨P, HP⟩ := hid_ex (DoP R wm base p (.slice ra L.length rc) (.slice ga G.length gc) L GV w)
  rw [← HP.out] at HEND ⊢
  clear h hL hI hs hF hfe hR hfin hrk hrn haf hIM hkM hmM hck hTk HP Htl HG
  obtain ⟨n, Hn⟩ := hid_ex L.length
  obtain ⟨gn, Hgn⟩ := hid_ex G.length
  obtain ⟨fn, Hfn⟩ := hid_ex fs.length
  obtain ⟨ln, Hln⟩ := hid_ex l.length
  rw [← Hn.out] at HT HBX HNR HAF hr1 h64 HEND
  rw [hGl] at hn2 hn3
  rw [← Hgn.out] at HBX HRR HAF hg1 hn2 hn3 HT HEND
  rw [← Hln.out] at HAF
  rw [← Hfn.out] at HF hfl ⊢
  obtain ⟨i0, hif, hz0, hz1, hz2⟩ := info_parts infoTr
  obtain ⟨w1, HW1⟩ := hid_ex (w.alloc (.cells #[.slice fa fn fc, .int .i64 tl] 38))
  have HB1 : Hid (Below w.heap.size w w1) := by rw [HW1.out]; exact new_below _ _
  have HY1 : Hid (w1.heap[w.heap.size]? = some (.cells #[.slice fa fn fc, .int .i64 tl] 38)) := by rw [HW1.out]; exact heap_alloc_new _ _
  have HX1 : Hid (w1.heap[p]? = some (.cells #[.slice R.a R.len R.cap, .int .i64 R.kp, .int .i64 wm, .slice ra n rc, .slice ga gn gc] 29)) := (HB1.out.block _ hpl).trans HBX.out
  go_enter Tryz.func9, Tryz.ntmps9
  go_wp2_with fail
  rw [← HW1.out]
  clear HW1
  have hyl := (Array.getElem?_eq_some_iff.1 HY1.out).1
  have hpl1 := (Array.getElem?_eq_some_iff.1 HX1.out).1
  go_loopw [5, 6] (fun mv i wr => ∃ k : Nat, k ≤ fn ∧ i = .int .i64 (k : Int) ∧ Hid (GOwnO w wr w1.heap.size mv (rs.take k)) ∧ Hid (Below w1.heap.size w1 wr)) (fun _ i _ => fn - (intOf i).toNat)
  case atStart => exact ⟨0, by omega, rfl, GOwnO.nil _ _ _, Below.refl _ _⟩
  case round =>
    obtain ⟨k, hk, rfl, HO, HW⟩ := hrel
    have HYr : Hid (wr.heap[w.heap.size]? = some (.cells #[.slice fa fn fc, .int .i64 tl] 38)) := (HW.out.block _ hyl).trans HY1.out
    have HXr : Hid (wr.heap[p]? = some (.cells #[.slice R.a R.len R.cap, .int .i64 R.kp, .int .i64 wm, .slice ra n rc, .slice ga gn gc] 29)) := (HW.out.block _ hpl1).trans HX1.out
    have y0 := (cell_row HYr.out 0 (by simp)).1
    simp only [List.getElem_toArray, List.getElem_cons_zero] at y0
    by_cases hlt : k < fn
    · have hlt' : (k : Int) < (fn : Int) := by omega
      have hkf : k < fs.length := by rw [← Hfn.out]; exact hlt
      obtain ⟨hf1, hf2⟩ := HFI.out fs[k] (List.getElem_mem hkf)
      obtain ⟨f, hf⟩ : ∃ f : Nat, fs[k] = (f : Int) := ⟨fs[k].toNat, by omega⟩
      have hfG : f < G.length := by rw [hf] at hf2; simpa using hf2
      have hfp : 1 ≤ f := by rw [hf] at hf1; omega
      obtain ⟨fb, fo, rfl, hfb, c1⟩ := ReadsP.at HF.out k hkf
      rw [hf] at c1
      obtain ⟨gb, go, rfl, hgb⟩ := rr_ptr HRR.out (by omega)
      obtain ⟨ev, d1, hev⟩ := rReads_at HRR.out hfG
      obtain ⟨ea, ec, rfl, hle1, hle2⟩ := hev.form
      have HSt : Hid (rs.take (k + 1) = rs.take k ++ [G[f]]) := by
        unfold Hid
        have hkr : k < rs.length := by rw [Hrs.out, List.length_map]; exact hkf
        rw [List.take_succ_eq_append_getElem hkr]
        have e1 : rs[k] = G[f] := by
          have e2 : rs[k]? = some (rwT G fs[k]) := by rw [Hrs.out, List.getElem?_map, List.getElem?_eq_getElem hkf]; rfl
          rw [List.getElem?_eq_getElem hkr, hf] at e2
          have e3 := Option.some.inj e2
          rw [e3]
          unfold rwT
          rw [List.getD_eq_getElem?_getD, Int.toNat_natCast, List.getElem?_eq_getElem hfG]
          rfl
        rw [e1]
      have hlk : (rs.take k).length = k := by rw [List.length_take, Hrs.out, List.length_map]; omega
      obtain ⟨vs, hown, hvl, hvr⟩ := HO.out
      have HVL : Hid _ := hvl
      have HVR : Hid _ := hvr
      rw [hlk] at hown
      obtain ⟨am, cm, hmf⟩ := HO.out.form
      rw [hlk] at hmf
      subst hmf
      obtain ⟨r, Hr⟩ := hid_ex G[f]
      rw [← Hr.out] at d1 hev HSt
      have HEV : Hid (EReads w (.slice ea r.length ec) r) := hev
      obtain ⟨rn, Hrn⟩ := hid_ex r.length
      rw [← Hrn.out] at d1 HEV
      have hfg : (f : Int) < (gn : Int) := by rw [Hgn.out]; omega
      have hfg2 : f < gn := by omega
      have hsz := HW.out.size
      have HWw : Hid (Below w.heap.size w wr) := HB1.out.trans (HW.out.mono HB1.out.size)
      have HC1 : Hid (w.cell? ⟨fb, fo + k, none⟩ = some (.int .i64 (f : Int))) := c1
      have HD1 : Hid _ := d1
      have HCr : Hid (wr.cell? ⟨fb, fo + k, none⟩ = some (.int .i64 (f : Int))) := (HWw.out.cell (p := ⟨fb, _, none⟩) hfb).trans HC1.out
      have z1 := HCr.out
      have x4 := (cell_row HXr.out 4 (by simp)).1
      simp only [List.getElem_toArray, List.getElem_cons_zero, List.getElem_cons_succ] at x4
      have q1 : ¬ (f : Int) < 1 := by omega
      have q2 : decide ((f : Int) < 1) = false := decide_eq_false q1
      have q3 : ¬ (gn : Int) ≤ (f : Int) := by omega
      have q4 : decide ((gn : Int) ≤ (f : Int)) = false := decide_eq_false q3
      have q5 : ¬ gn ≤ f := by omega
      have q6 : decide (gn ≤ f) = false := decide_eq_false q5
      have q7 : ¬ f < 1 := by omega
      have q8 : decide (f < 1) = false := decide_eq_false q7
      have q9 : ¬ f = 0 := by omega
      have q10 : decide (f = 0) = false := decide_eq_false q9
      have q11 : (f == 0) = false := by simp; omega
      clear hev hle1 hle2 hlk Hrn Hr hf hf1 hf2 hfG c1 d1
      go_wp2_with fail
      go_quiet (fail)
      clear z1 x4 q1 q2 q3 q4 q5 q6 q7 q8 q9 q10 q11 y0
      obtain ⟨ws, HS⟩ := hid_ex (wr.drewN nq)
      have HBs : Hid (Below wr.heap.size wr ws) := by rw [HS.out]; exact below_drewN (Below.refl _ _) nq
      have HWs : Hid (Below w1.heap.size w1 ws) := HW.out.trans (HBs.out.mono hsz)
      have HWsw : Hid (Below w.heap.size w ws) := HB1.out.trans (HWs.out.mono HB1.out.size)
      have hzs : w1.heap.size ≤ ws.heap.size := HWs.out.size
      have hown2 : ws.ownsRow w1.heap.size 31 1 (.slice am k cm) k vs := row_keepT hown fun b _ hb => HBs.out.block b hb
      rw [← HS.out]
      obtain ⟨v6, w6, hrun, hown6, hgrow6, _⟩ := run_append_own (P := Tryz.prog) (ws.drew.alloc (.cells #[.slice ea rn ec] 31)) w1.heap.size 25 25 31 i0 _ 1 24 Tryz.underlying25 hif hz0 hz1 hz2 rfl (by decide) (.slice am k cm) k vs (World.ownsRow.alloc (World.ownsRow.drew hown2) _) ⟨ws.heap.size, 0, none⟩ 1 1 [.slice ea rn ec] rfl news1 (by simp [Value.oneCell']) (by unfold maxLen; omega) (by omega) (al_ok hzs)
      have HO6 : Hid (GOwnO w w6 w1.heap.size v6 (rs.take (k + 1))) := GOwnO.snoc HSt.out vs (by
        have : (rs.take k).length = k := by rw [List.length_take, Hrs.out, List.length_map]; omega
        rw [this]; exact hown6) HVL.out HVR.out HEV.out
      have HW6 : Hid (Below w1.heap.size w1 w6) := (HWs.out.drew.alloc hzs _).grown hgrow6 (al_ok hzs) (own_block hown2)
      clear HS hown hown2 hown6 hgrow6 HO HVL HVR hvl hvr HSt HBs HCr HYr HXr
      go_wp2_with fail
      refine wp_region_noPanic ?_
      refine wp_region_held_drew (S := (fun w' => Below w1.heap.size w1 w')) (by kernel_rfl) ?_ (fun hHeld => ?_)
      · exact HWs.out.drew
      refine wpAnyH_take (i := 0) (v := .slice am k cm) rfl (by kernel_rfl) (by kernel_rfl) (by kernel_rfl) (fun _ _ _ h => h) (Or.inl ⟨by rfl, ?_⟩) (by assumption) ?_
      · (intro w1 hSw; (try dsimp only at hSw); go_simp)
      simp only [List.getElem_toArray, List.getElem_cons_zero, Act.put, List.setIfInBounds_toArray, List.set_cons_zero, List.set_cons_succ]
      refine wpAnyH_take (i := 1) (v := .pointer (some ⟨p, 0, none⟩)) rfl (by kernel_rfl) (by kernel_rfl) (by kernel_rfl) (fun _ _ _ h => h) (Or.inl ⟨by rfl, ?_⟩) (by assumption) ?_
      · (intro w1 hSw; (try dsimp only at hSw); go_simp)
      simp only [List.getElem_toArray, List.getElem_cons_succ, List.getElem_cons_zero, Act.put, List.setIfInBounds_toArray, List.set_cons_zero, List.set_cons_succ]
      refine wpAnyH_take (i := 2) (v := .pointer (some ⟨p, 0, none⟩)) rfl (by kernel_rfl) (by kernel_rfl) (by kernel_rfl) (fun _ _ _ h => h) (Or.inl ⟨by rfl, ?_⟩) (by assumption) ?_
      · (intro w1 hSw; (try dsimp only at hSw); go_simp)
      simp only [List.getElem_toArray, List.getElem_cons_succ, List.getElem_cons_zero, Act.put, List.setIfInBounds_toArray, List.set_cons_zero, List.set_cons_succ]
      refine wpAnyH_take (i := 3) (v := .pointer (some ⟨p, 4, none⟩)) rfl (by kernel_rfl) (by kernel_rfl) (by kernel_rfl) (fun _ _ _ h => h) (Or.inl ⟨by rfl, ?_⟩) (by assumption) ?_
      · (intro w1 hSw; (try dsimp only at hSw); go_simp)
      simp only [List.getElem_toArray, List.getElem_cons_succ, List.getElem_cons_zero, Act.put, List.setIfInBounds_toArray, List.set_cons_zero, List.set_cons_succ]
      refine wpAnyH_take (i := 4) (v := .slice (some ⟨gb, go, none⟩) gn gc) rfl (by kernel_rfl) (by kernel_rfl) (by kernel_rfl) (fun _ _ _ h => h) (Or.inl ⟨by rfl, ?_⟩) (by assumption) ?_
      · (intro w1 hSw; (try dsimp only at hSw); have gx := (hSw.block _ hpl1).trans HX1.out; have g0 := (cell_row gx 4 (by simp)).1; simp only [List.getElem_toArray, List.getElem_cons_zero, List.getElem_cons_succ] at g0; go_simp)
      simp only [List.getElem_toArray, List.getElem_cons_succ, List.getElem_cons_zero, Act.put, List.setIfInBounds_toArray, List.set_cons_zero, List.set_cons_succ]
      refine wpAnyH_take (i := 5) (v := .pointer (some ⟨w.heap.size, 0, none⟩)) rfl (by kernel_rfl) (by kernel_rfl) (by kernel_rfl) (fun _ _ _ h => h) (Or.inl ⟨by rfl, ?_⟩) (by assumption) ?_
      · (intro w1 hSw; (try dsimp only at hSw); go_simp)
      simp only [List.getElem_toArray, List.getElem_cons_succ, List.getElem_cons_zero, Act.put, List.setIfInBounds_toArray, List.set_cons_zero, List.set_cons_succ]
      refine wpAnyH_take (i := 6) (v := .slice (some ⟨fb, fo, none⟩) fn fc) rfl (by kernel_rfl) (by kernel_rfl) (by kernel_rfl) (fun _ _ _ h => h) (Or.inl ⟨by rfl, ?_⟩) (by assumption) ?_
      · (intro w1 hSw; (try dsimp only at hSw); have gx := (hSw.block _ hyl).trans HY1.out; have g0 := (cell_row gx 0 (by simp)).1; simp only [List.getElem_toArray, List.getElem_cons_zero] at g0; go_simp)
      simp only [List.getElem_toArray, List.getElem_cons_succ, List.getElem_cons_zero, Act.put, List.setIfInBounds_toArray, List.set_cons_zero, List.set_cons_succ]
      refine wpAnyH_take (i := 7) (v := .int .i64 (k : Int)) rfl (by kernel_rfl) (by kernel_rfl) (by kernel_rfl) (fun _ _ _ h => h) (Or.inl ⟨by rfl, ?_⟩) (by assumption) ?_
      · (intro w1 hSw; (try dsimp only at hSw); go_simp)
      simp only [List.getElem_toArray, List.getElem_cons_succ, List.getElem_cons_zero, Act.put, List.setIfInBounds_toArray, List.set_cons_zero, List.set_cons_succ]
      refine wpAnyH_take (i := 8) (v := .pointer (some ⟨fb, fo + k, none⟩)) rfl (by kernel_rfl) (by kernel_rfl) (by kernel_rfl) (fun _ _ _ h => h) (Or.inl ⟨by rfl, ?_⟩) (by assumption) ?_
      · (intro w1 hSw; (try dsimp only at hSw); go_simp)
      simp only [List.getElem_toArray, List.getElem_cons_succ, List.getElem_cons_zero, Act.put, List.setIfInBounds_toArray, List.set_cons_zero, List.set_cons_succ]
      refine wpAnyH_take (i := 9) (v := .int .i64 (f : Int)) rfl (by kernel_rfl) (by kernel_rfl) (by kernel_rfl) (fun _ _ _ h => h) (Or.inl ⟨by rfl, ?_⟩) (by assumption) ?_
      · (intro w1 hSw; (try dsimp only at hSw); have g0 := ((HB1.out.trans (hSw.mono HB1.out.size)).cell (p := ⟨fb, _, none⟩) hfb).trans HC1.out; go_simp)
      simp only [List.getElem_toArray, List.getElem_cons_succ, List.getElem_cons_zero, Act.put, List.setIfInBounds_toArray, List.set_cons_zero, List.set_cons_succ]
      refine wpAnyH_take (i := 10) (v := .pointer (some ⟨gb, go + f, none⟩)) rfl (by kernel_rfl) (by kernel_rfl) (by kernel_rfl) (fun _ _ _ h => h) (Or.inl ⟨by rfl, ?_⟩) (by assumption) ?_
      · (intro w1 hSw; (try dsimp only at hSw); go_simp)
      simp only [List.getElem_toArray, List.getElem_cons_succ, List.getElem_cons_zero, Act.put, List.setIfInBounds_toArray, List.set_cons_zero, List.set_cons_succ]
      refine wpAnyH_take (i := 11) (v := .slice ea rn ec) rfl (by kernel_rfl) (by kernel_rfl) (by kernel_rfl) (fun _ _ _ h => h) (Or.inl ⟨by rfl, ?_⟩) (by assumption) ?_
      · (intro w1 hSw; (try dsimp only at hSw); have g0 := ((HB1.out.trans (hSw.mono HB1.out.size)).cell (p := ⟨gb, _, none⟩) hgb).trans HD1.out; go_simp)
      simp only [List.getElem_toArray, List.getElem_cons_succ, List.getElem_cons_zero, Act.put, List.setIfInBounds_toArray, List.set_cons_zero, List.set_cons_succ]
      refine wpAnyH_ready (rs := [12]) (by kernel_rfl) (by simp) ?_
      refine AllReadyH.cons (o := _) rfl (fun K hK => ?_) AllReadyH.nil
      go_simp
      refine hK.out _ _ ?_ (fun hHeld => ?_)
      · exact HWs.out.drew.alloc hzs _
      clear hK K
      refine wpAnyH_ready (rs := [13]) (by kernel_rfl) (by simp) ?_
      refine AllReadyH.cons (o := _) rfl (fun K hK => ?_) AllReadyH.nil
      refine wp_app_runT (.tmp 39) (.tmp 51) _ _ rfl rfl _ _ _ rfl rfl hrun ?_
      refine hK.out _ _ ?_ (fun hHeld => ?_)
      · exact HW6.out
      clear hK K
      refine wpAnyH_take (i := 14) (v := v6) rfl (by kernel_rfl) (by kernel_rfl) (by kernel_rfl) (fun _ _ _ h => h) (Or.inl ⟨by rfl, ?_⟩) (by assumption) ?_
      · (intro w1 hSw; (try dsimp only at hSw); go_simp)
      simp only [List.getElem_toArray, List.getElem_cons_succ, List.getElem_cons_zero, Act.put, List.setIfInBounds_toArray, List.set_cons_zero, List.set_cons_succ]
      clear hHeld
      refine wpAnyH_done (by kernel_rfl) ?_ _
      refine NoPanic.normal ?_
      clear hrun
      go_wp2_with fail
      go_roundw
      case rel => exact ⟨k + 1, by omega, by go_num, HO6, HW6⟩
      case measure => simp [intOf]; omega
    · obtain rfl : k = fn := by omega
      have hlt' : ¬ (k : Int) < (k : Int) := by omega
      have HWw : Hid (Below w.heap.size w wr) := HB1.out.trans (HW.out.mono HB1.out.size)
      have hrsl : rs.length = k := by rw [Hrs.out, List.length_map, ← Hfn.out]
      have HM : Hid (RReads wr u5 rs) := by
        have h := HO.out
        rw [List.take_of_length_le (by omega)] at h
        exact h.reads HWw.out
      obtain ⟨ma, mc, hmv, -, -⟩ := rr_form HM.out
      rw [hrsl] at hmv
      subst hmv
      have HAL : Hid (Calls Tryz.prog 14 #[.slice ma k mc] wr fun e w' => ∃ a cap, e = .returned (.tuple #[.slice a A.length cap, .int .i64 0]) ∧ EReads w' (.slice a A.length cap) A ∧ Below wr.heap.size wr w') :=
        all_ok _ rs wr HM.out (by omega) HSM.out.1 HSM.out.2.1 HOK.out.z A HA.out
      clear HO HSM hif hz0 hz1 hz2 HM HA HRR HOK Hrs HFI HNR hrsl
      go_wp2_with fail
      refine HAL.out.mono ?_
      clear HAL
      rintro e w3 ⟨ba, bc, rfl, hE3, hb3⟩
      have HE3 : Hid (EReads w3 (.slice ba A.length bc) A) := hE3
      have HB3 : Hid (Below w1.heap.size w1 w3) := HW.out.trans (hb3.mono HW.out.size)
      have HB3w : Hid (Below w.heap.size w w3) := HB1.out.trans (HB3.out.mono HB1.out.size)
      have HX3 : Hid (w3.heap[p]? = some (.cells #[.slice R.a R.len R.cap, .int .i64 R.kp, .int .i64 wm, .slice ra n rc, .slice ga gn gc] 29)) := (HB3.out.block _ hpl1).trans HX1.out
      have HY3 : Hid (w3.heap[w.heap.size]? = some (.cells #[.slice fa k fc, .int .i64 tl] 38)) := (HB3.out.block _ hyl).trans HY1.out
      have hpl3 : p < w3.heap.size := (Array.getElem?_eq_some_iff.1 HX3.out).1
      have hyl3 : w.heap.size < w3.heap.size := (Array.getElem?_eq_some_iff.1 HY3.out).1
      have HFO : Hid (∀ W, Below w3.heap.size w3 W → Calls Tryz.prog 12 #[.agg #[.slice R.a R.len R.cap, .int .i64 R.kp], .int .i64 wm, .slice ba A.length bc] W fun e w' => ∃ (a : Option Addr) (cap : Nat) (xs : List Ev), e = .returned (.tuple #[.slice a xs.length cap, .int .i64 0]) ∧ EOwn w' W.heap.size (.slice a xs.length cap) xs ∧ xs.map evE = foldF R wm A ∧ (∀ x ∈ xs, CnOk x.a) ∧ Below W.heap.size W w') := fun W hW =>
        foldO_ok R wm _ A W (HL.out.at (HB3w.out.trans (hW.mono HB3w.out.size))) (HE3.out.below hW) HSA.out.1 HSA.out.2 HCK.out
      obtain ⟨an, Han⟩ := hid_ex A.length
      rw [← Han.out] at HFO ⊢
      clear hE3 hb3 HE3 HXr HYr HW HWw y0 HB3
      go_wp2_with fail
      refine wp_region_noPanic ?_
      refine wp_region_held_drew (S := (fun w' => Below w3.heap.size w3 w')) (by kernel_rfl) ?_ (fun hHeld => ?_)
      · exact (Below.refl _ _).drew
      refine wpAnyH_take (i := 0) (v := .pointer (some ⟨p, 0, none⟩)) rfl (by kernel_rfl) (by kernel_rfl) (by kernel_rfl) (fun _ _ _ h => h) (Or.inl ⟨by rfl, ?_⟩) (by assumption) ?_
      · (intro w1 hSw; (try dsimp only at hSw); go_simp)
      simp only [List.getElem_toArray, List.getElem_cons_zero, Act.put, List.setIfInBounds_toArray, List.set_cons_zero, List.set_cons_succ]
      refine wpAnyH_take (i := 1) (v := .pointer (some ⟨p, 0, none⟩)) rfl (by kernel_rfl) (by kernel_rfl) (by kernel_rfl) (fun _ _ _ h => h) (Or.inl ⟨by rfl, ?_⟩) (by assumption) ?_
      · (intro w1 hSw; (try dsimp only at hSw); go_simp)
      simp only [List.getElem_toArray, List.getElem_cons_succ, List.getElem_cons_zero, Act.put, List.setIfInBounds_toArray, List.set_cons_zero, List.set_cons_succ]
      refine wpAnyH_take (i := 2) (v := .pointer (some ⟨p, 0, none⟩)) rfl (by kernel_rfl) (by kernel_rfl) (by kernel_rfl) (fun _ _ _ h => h) (Or.inl ⟨by rfl, ?_⟩) (by assumption) ?_
      · (intro w1 hSw; (try dsimp only at hSw); go_simp)
      simp only [List.getElem_toArray, List.getElem_cons_succ, List.getElem_cons_zero, Act.put, List.setIfInBounds_toArray, List.set_cons_zero, List.set_cons_succ]
      refine wpAnyH_take (i := 3) (v := .agg #[.slice R.a R.len R.cap, .int .i64 R.kp]) rfl (by kernel_rfl) (by kernel_rfl) (by kernel_rfl) (fun _ _ _ h => h) (Or.inl ⟨by rfl, ?_⟩) (by assumption) ?_
      · (intro w1 hSw; (try dsimp only at hSw); have gx := (hSw.block _ hpl3).trans HX3.out; have g0 := (cell_row gx 0 (by simp)).1; have g1 := (cell_row gx 1 (by simp)).1; simp only [List.getElem_toArray, List.getElem_cons_zero, List.getElem_cons_succ] at g0 g1; go_simp)
      simp only [List.getElem_toArray, List.getElem_cons_succ, List.getElem_cons_zero, Act.put, List.setIfInBounds_toArray, List.set_cons_zero, List.set_cons_succ]
      refine wpAnyH_take (i := 4) (v := .pointer (some ⟨p, 0, none⟩)) rfl (by kernel_rfl) (by kernel_rfl) (by kernel_rfl) (fun _ _ _ h => h) (Or.inl ⟨by rfl, ?_⟩) (by assumption) ?_
      · (intro w1 hSw; (try dsimp only at hSw); go_simp)
      simp only [List.getElem_toArray, List.getElem_cons_succ, List.getElem_cons_zero, Act.put, List.setIfInBounds_toArray, List.set_cons_zero, List.set_cons_succ]
      refine wpAnyH_take (i := 5) (v := .pointer (some ⟨p, 0, none⟩)) rfl (by kernel_rfl) (by kernel_rfl) (by kernel_rfl) (fun _ _ _ h => h) (Or.inl ⟨by rfl, ?_⟩) (by assumption) ?_
      · (intro w1 hSw; (try dsimp only at hSw); go_simp)
      simp only [List.getElem_toArray, List.getElem_cons_succ, List.getElem_cons_zero, Act.put, List.setIfInBounds_toArray, List.set_cons_zero, List.set_cons_succ]
      refine wpAnyH_take (i := 6) (v := .pointer (some ⟨p, 2, none⟩)) rfl (by kernel_rfl) (by kernel_rfl) (by kernel_rfl) (fun _ _ _ h => h) (Or.inl ⟨by rfl, ?_⟩) (by assumption) ?_
      · (intro w1 hSw; (try dsimp only at hSw); go_simp)
      simp only [List.getElem_toArray, List.getElem_cons_succ, List.getElem_cons_zero, Act.put, List.setIfInBounds_toArray, List.set_cons_zero, List.set_cons_succ]
      refine wpAnyH_take (i := 7) (v := .int .i64 wm) rfl (by kernel_rfl) (by kernel_rfl) (by kernel_rfl) (fun _ _ _ h => h) (Or.inl ⟨by rfl, ?_⟩) (by assumption) ?_
      · (intro w1 hSw; (try dsimp only at hSw); have gx := (hSw.block _ hpl3).trans HX3.out; have g0 := (cell_row gx 2 (by simp)).1; simp only [List.getElem_toArray, List.getElem_cons_zero, List.getElem_cons_succ] at g0; go_simp)
      simp only [List.getElem_toArray, List.getElem_cons_succ, List.getElem_cons_zero, Act.put, List.setIfInBounds_toArray, List.set_cons_zero, List.set_cons_succ]
      refine wpAnyH_take (i := 8) (v := .slice ba an bc) rfl (by kernel_rfl) (by kernel_rfl) (by kernel_rfl) (fun _ _ _ h => h) (Or.inl ⟨by rfl, ?_⟩) (by assumption) ?_
      · (intro w1 hSw; (try dsimp only at hSw); go_simp)
      simp only [List.getElem_toArray, List.getElem_cons_succ, List.getElem_cons_zero, Act.put, List.setIfInBounds_toArray, List.set_cons_zero, List.set_cons_succ]
      refine wpAnyH_ready (rs := [9]) (by kernel_rfl) (by simp) ?_
      refine AllReadyH.cons (o := _) rfl (fun K hK => ?_) AllReadyH.nil
      go_simp
      refine (HFO.out _ (Below.refl _ _).drew).mono ?_
      clear HFO
      rintro e W5 ⟨la, lc, xs, rfl, ho5, hm5, hc5, hb5⟩
      have HW5 : Hid (Below w3.heap.size w3 W5) := (Below.refl w3.heap.size w3).drew.trans hb5
      have HXT3 : Hid (TrAt R wm base p w3 (.slice ra n rc) (.slice ga gn gc) L GV) := HT.out.below HB3w.out
      have hkp : EKeep W5 (Xs p (.slice ra n rc) (.slice ga gn gc)) (.slice la xs.length lc) (xs.map evE) := ho5.ekeep hc5 (fun b hb => by have := (HXT3.out.lo b hb).2; exact Nat.lt_of_lt_of_le this (Below.refl w3.heap.size w3).drew.size)
      rw [hm5, ← Hl.out] at hkp
      have hxl : xs.length = ln := by rw [Hln.out, Hl.out, ← hm5, List.length_map]
      rw [hxl] at hkp ⊢
      have HKP : Hid (EKeep W5 (Xs p (.slice ra n rc) (.slice ga gn gc)) (.slice la ln lc) l) := hkp
      have HT5 : Hid (TrAt R wm base p W5 (.slice ra n rc) (.slice ga gn gc) L GV) := HXT3.out.below HW5.out
      have HB5 : Hid (Below w.heap.size w W5) := HB3w.out.trans (HW5.out.mono HB3w.out.size)
      have HX5 : Hid (W5.heap[p]? = some (.cells #[.slice R.a R.len R.cap, .int .i64 R.kp, .int .i64 wm, .slice ra n rc, .slice ga gn gc] 29)) := HT5.out.bx
      have HY5 : Hid (W5.heap[w.heap.size]? = some (.cells #[.slice fa k fc, .int .i64 tl] 38)) := (HW5.out.block _ hyl3).trans HY3.out
      have hpl5 : p < W5.heap.size := (Array.getElem?_eq_some_iff.1 HX5.out).1
      have hyl5 : w.heap.size < W5.heap.size := (Array.getElem?_eq_some_iff.1 HY5.out).1
      have hlb : ln ≤ 100000 := by
        have h1 := HSA.out.1
        have h2 := foldF_len R wm A
        rw [← Hl.out] at h2
        have h3 := Hln.out
        omega
      clear hb5 ho5 hm5 hc5 hkp hxl
      refine hK.out _ _ ?_ (fun hHeld => ?_)
      · exact HW5.out
      clear hK K
      refine wpAnyH_take (i := 10) (v := .tuple #[.slice la ln lc, .int .i64 0]) rfl (by kernel_rfl) (by kernel_rfl) (by kernel_rfl) (fun _ _ _ h => h) (Or.inl ⟨by rfl, ?_⟩) (by assumption) ?_
      · (intro w1 hSw; (try dsimp only at hSw); go_simp)
      simp only [List.getElem_toArray, List.getElem_cons_succ, List.getElem_cons_zero, Act.put, List.setIfInBounds_toArray, List.set_cons_zero, List.set_cons_succ]
      refine wpAnyH_take (i := 11) (v := .slice la ln lc) rfl (by kernel_rfl) (by kernel_rfl) (by kernel_rfl) (fun _ _ _ h => h) (Or.inl ⟨by rfl, ?_⟩) (by assumption) ?_
      · (intro w1 hSw; (try dsimp only at hSw); go_simp)
      simp only [List.getElem_toArray, List.getElem_cons_succ, List.getElem_cons_zero, Act.put, List.setIfInBounds_toArray, List.set_cons_zero, List.set_cons_succ]
      refine wpAnyH_take (i := 12) (v := .int .i64 0) rfl (by kernel_rfl) (by kernel_rfl) (by kernel_rfl) (fun _ _ _ h => h) (Or.inl ⟨by rfl, ?_⟩) (by assumption) ?_
      · (intro w1 hSw; (try dsimp only at hSw); go_simp)
      simp only [List.getElem_toArray, List.getElem_cons_succ, List.getElem_cons_zero, Act.put, List.setIfInBounds_toArray, List.set_cons_zero, List.set_cons_succ]
      refine wpAnyH_take (i := 13) (v := .slice la ln lc) rfl (by kernel_rfl) (by kernel_rfl) (by kernel_rfl) (fun _ _ _ h => h) (Or.inl ⟨by rfl, ?_⟩) (by assumption) ?_
      · (intro w1 hSw; (try dsimp only at hSw); go_simp)
      simp only [List.getElem_toArray, List.getElem_cons_succ, List.getElem_cons_zero, Act.put, List.setIfInBounds_toArray, List.set_cons_zero, List.set_cons_succ]
      refine wpAnyH_take (i := 14) (v := .int .i64 0) rfl (by kernel_rfl) (by kernel_rfl) (by kernel_rfl) (fun _ _ _ h => h) (Or.inl ⟨by rfl, ?_⟩) (by assumption) ?_
      · (intro w1 hSw; (try dsimp only at hSw); go_simp)
      simp only [List.getElem_toArray, List.getElem_cons_succ, List.getElem_cons_zero, Act.put, List.setIfInBounds_toArray, List.set_cons_zero, List.set_cons_succ]
      clear hHeld HW5
      refine wpAnyH_done (by kernel_rfl) ?_ _
      refine NoPanic.normal ?_
      have HAFW : Hid (∀ W, Below W5.heap.size W5 W → Calls Tryz.prog 19 #[.slice ra n rc, .agg #[.slice fa k fc, .int .i64 tl], .int .i64 (gn : Int), .int .i64 (ln : Int)] W fun e w' => Below W.heap.size W w' ∧ ∃ v', e = .returned (.tuple #[v', .int .i64 0]) ∧ NOwn 47 w' W.heap.size v' M) := fun W hW => HAF.out _ W (by have := (HT5.out.below hW).nreads; exact this) (HF.out.below (HB5.out.trans (hW.mono HB5.out.size)))
      go_wp2_with fail
      refine wp_region_noPanic ?_
      refine wp_region_held_drew (S := (fun w' => Below W5.heap.size W5 w')) (by kernel_rfl) ?_ (fun hHeld => ?_)
      · exact (Below.refl _ _).drew
      refine wpAnyH_take (i := 0) (v := .pointer (some ⟨p, 0, none⟩)) rfl (by kernel_rfl) (by kernel_rfl) (by kernel_rfl) (fun _ _ _ h => h) (Or.inl ⟨by rfl, ?_⟩) (by assumption) ?_
      · (intro w1 hSw; (try dsimp only at hSw); go_simp)
      simp only [List.getElem_toArray, List.getElem_cons_zero, Act.put, List.setIfInBounds_toArray, List.set_cons_zero, List.set_cons_succ]
      refine wpAnyH_take (i := 1) (v := .pointer (some ⟨p, 0, none⟩)) rfl (by kernel_rfl) (by kernel_rfl) (by kernel_rfl) (fun _ _ _ h => h) (Or.inl ⟨by rfl, ?_⟩) (by assumption) ?_
      · (intro w1 hSw; (try dsimp only at hSw); go_simp)
      simp only [List.getElem_toArray, List.getElem_cons_succ, List.getElem_cons_zero, Act.put, List.setIfInBounds_toArray, List.set_cons_zero, List.set_cons_succ]
      refine wpAnyH_take (i := 2) (v := .pointer (some ⟨p, 3, none⟩)) rfl (by kernel_rfl) (by kernel_rfl) (by kernel_rfl) (fun _ _ _ h => h) (Or.inl ⟨by rfl, ?_⟩) (by assumption) ?_
      · (intro w1 hSw; (try dsimp only at hSw); go_simp)
      simp only [List.getElem_toArray, List.getElem_cons_succ, List.getElem_cons_zero, Act.put, List.setIfInBounds_toArray, List.set_cons_zero, List.set_cons_succ]
      refine wpAnyH_take (i := 3) (v := .slice ra n rc) rfl (by kernel_rfl) (by kernel_rfl) (by kernel_rfl) (fun _ _ _ h => h) (Or.inl ⟨by rfl, ?_⟩) (by assumption) ?_
      · (intro w1 hSw; (try dsimp only at hSw); have gx := (hSw.block _ hpl5).trans HX5.out; have g0 := (cell_row gx 3 (by simp)).1; simp only [List.getElem_toArray, List.getElem_cons_zero, List.getElem_cons_succ] at g0; go_simp)
      simp only [List.getElem_toArray, List.getElem_cons_succ, List.getElem_cons_zero, Act.put, List.setIfInBounds_toArray, List.set_cons_zero, List.set_cons_succ]
      refine wpAnyH_take (i := 4) (v := .agg #[.slice fa k fc, .int .i64 tl]) rfl (by kernel_rfl) (by kernel_rfl) (by kernel_rfl) (fun _ _ _ h => h) (Or.inl ⟨by rfl, ?_⟩) (by assumption) ?_
      · (intro w1 hSw; (try dsimp only at hSw); have gx := (hSw.block _ hyl5).trans HY5.out; have g0 := (cell_row gx 0 (by simp)).1; have g1 := (cell_row gx 1 (by simp)).1; simp only [List.getElem_toArray, List.getElem_cons_zero, List.getElem_cons_succ] at g0 g1; go_simp)
      simp only [List.getElem_toArray, List.getElem_cons_succ, List.getElem_cons_zero, Act.put, List.setIfInBounds_toArray, List.set_cons_zero, List.set_cons_succ]
      refine wpAnyH_take (i := 5) (v := .pointer (some ⟨p, 0, none⟩)) rfl (by kernel_rfl) (by kernel_rfl) (by kernel_rfl) (fun _ _ _ h => h) (Or.inl ⟨by rfl, ?_⟩) (by assumption) ?_
      · (intro w1 hSw; (try dsimp only at hSw); go_simp)
      simp only [List.getElem_toArray, List.getElem_cons_succ, List.getElem_cons_zero, Act.put, List.setIfInBounds_toArray, List.set_cons_zero, List.set_cons_succ]
      refine wpAnyH_take (i := 6) (v := .pointer (some ⟨p, 0, none⟩)) rfl (by kernel_rfl) (by kernel_rfl) (by kernel_rfl) (fun _ _ _ h => h) (Or.inl ⟨by rfl, ?_⟩) (by assumption) ?_
      · (intro w1 hSw; (try dsimp only at hSw); go_simp)
      simp only [List.getElem_toArray, List.getElem_cons_succ, List.getElem_cons_zero, Act.put, List.setIfInBounds_toArray, List.set_cons_zero, List.set_cons_succ]
      refine wpAnyH_take (i := 7) (v := .pointer (some ⟨p, 4, none⟩)) rfl (by kernel_rfl) (by kernel_rfl) (by kernel_rfl) (fun _ _ _ h => h) (Or.inl ⟨by rfl, ?_⟩) (by assumption) ?_
      · (intro w1 hSw; (try dsimp only at hSw); go_simp)
      simp only [List.getElem_toArray, List.getElem_cons_succ, List.getElem_cons_zero, Act.put, List.setIfInBounds_toArray, List.set_cons_zero, List.set_cons_succ]
      refine wpAnyH_take (i := 8) (v := .slice ga gn gc) rfl (by kernel_rfl) (by kernel_rfl) (by kernel_rfl) (fun _ _ _ h => h) (Or.inl ⟨by rfl, ?_⟩) (by assumption) ?_
      · (intro w1 hSw; (try dsimp only at hSw); have gx := (hSw.block _ hpl5).trans HX5.out; have g0 := (cell_row gx 4 (by simp)).1; simp only [List.getElem_toArray, List.getElem_cons_zero, List.getElem_cons_succ] at g0; go_simp)
      simp only [List.getElem_toArray, List.getElem_cons_succ, List.getElem_cons_zero, Act.put, List.setIfInBounds_toArray, List.set_cons_zero, List.set_cons_succ]
      refine wpAnyH_take (i := 9) (v := .int .i64 (gn : Int)) rfl (by kernel_rfl) (by kernel_rfl) (by kernel_rfl) (fun _ _ _ h => h) (Or.inl ⟨by rfl, ?_⟩) (by assumption) ?_
      · (intro w1 hSw; (try dsimp only at hSw); go_simp)
      simp only [List.getElem_toArray, List.getElem_cons_succ, List.getElem_cons_zero, Act.put, List.setIfInBounds_toArray, List.set_cons_zero, List.set_cons_succ]
      refine wpAnyH_take (i := 10) (v := .slice la ln lc) rfl (by kernel_rfl) (by kernel_rfl) (by kernel_rfl) (fun _ _ _ h => h) (Or.inl ⟨by rfl, ?_⟩) (by assumption) ?_
      · (intro w1 hSw; (try dsimp only at hSw); go_simp)
      simp only [List.getElem_toArray, List.getElem_cons_succ, List.getElem_cons_zero, Act.put, List.setIfInBounds_toArray, List.set_cons_zero, List.set_cons_succ]
      refine wpAnyH_take (i := 11) (v := .int .i64 (ln : Int)) rfl (by kernel_rfl) (by kernel_rfl) (by kernel_rfl) (fun _ _ _ h => h) (Or.inl ⟨by rfl, ?_⟩) (by assumption) ?_
      · (intro w1 hSw; (try dsimp only at hSw); go_simp)
      simp only [List.getElem_toArray, List.getElem_cons_succ, List.getElem_cons_zero, Act.put, List.setIfInBounds_toArray, List.set_cons_zero, List.set_cons_succ]
      refine wpAnyH_ready (rs := [12]) (by kernel_rfl) (by simp) ?_
      refine AllReadyH.cons (o := _) rfl (fun K hK => ?_) AllReadyH.nil
      go_simp
      refine (HAFW.out _ (Below.refl _ _).drew).mono ?_
      clear HAFW HAF
      rintro e W6 ⟨hb6, v', rfl, hm6⟩
      have HW6 : Hid (Below W5.heap.size W5 W6) := (Below.refl W5.heap.size W5).drew.trans hb6
      have HM6 : Hid (NOwn 47 W6 W5.heap.size v' M) := ⟨own_mono hm6.1 (Below.refl W5.heap.size W5).drew.size, hm6.2⟩
      obtain ⟨va, vc, hvv, -, -⟩ := (NOwn.reads HM6.out).form
      obtain ⟨mn, Hmn⟩ := hid_ex M.length
      rw [← Hmn.out] at hvv
      subst hvv
      clear hb6 hm6
      refine hK.out _ _ ?_ (fun hHeld => ?_)
      · exact HW6.out
      clear hK K
      refine wpAnyH_take (i := 13) (v := .tuple #[.slice va mn vc, .int .i64 0]) rfl (by kernel_rfl) (by kernel_rfl) (by kernel_rfl) (fun _ _ _ h => h) (Or.inl ⟨by rfl, ?_⟩) (by assumption) ?_
      · (intro w1 hSw; (try dsimp only at hSw); go_simp)
      simp only [List.getElem_toArray, List.getElem_cons_succ, List.getElem_cons_zero, Act.put, List.setIfInBounds_toArray, List.set_cons_zero, List.set_cons_succ]
      refine wpAnyH_take (i := 14) (v := .slice va mn vc) rfl (by kernel_rfl) (by kernel_rfl) (by kernel_rfl) (fun _ _ _ h => h) (Or.inl ⟨by rfl, ?_⟩) (by assumption) ?_
      · (intro w1 hSw; (try dsimp only at hSw); go_simp)
      simp only [List.getElem_toArray, List.getElem_cons_succ, List.getElem_cons_zero, Act.put, List.setIfInBounds_toArray, List.set_cons_zero, List.set_cons_succ]
      refine wpAnyH_take (i := 15) (v := .int .i64 0) rfl (by kernel_rfl) (by kernel_rfl) (by kernel_rfl) (fun _ _ _ h => h) (Or.inl ⟨by rfl, ?_⟩) (by assumption) ?_
      · (intro w1 hSw; (try dsimp only at hSw); go_simp)
      simp only [List.getElem_toArray, List.getElem_cons_succ, List.getElem_cons_zero, Act.put, List.setIfInBounds_toArray, List.set_cons_zero, List.set_cons_succ]
      refine wpAnyH_take (i := 16) (v := .slice va mn vc) rfl (by kernel_rfl) (by kernel_rfl) (by kernel_rfl) (fun _ _ _ h => h) (Or.inl ⟨by rfl, ?_⟩) (by assumption) ?_
      · (intro w1 hSw; (try dsimp only at hSw); go_simp)
      simp only [List.getElem_toArray, List.getElem_cons_succ, List.getElem_cons_zero, Act.put, List.setIfInBounds_toArray, List.set_cons_zero, List.set_cons_succ]
      refine wpAnyH_take (i := 17) (v := .int .i64 0) rfl (by kernel_rfl) (by kernel_rfl) (by kernel_rfl) (fun _ _ _ h => h) (Or.inl ⟨by rfl, ?_⟩) (by assumption) ?_
      · (intro w1 hSw; (try dsimp only at hSw); go_simp)
      simp only [List.getElem_toArray, List.getElem_cons_succ, List.getElem_cons_zero, Act.put, List.setIfInBounds_toArray, List.set_cons_zero, List.set_cons_succ]
      clear hHeld
      refine wpAnyH_done (by kernel_rfl) ?_ _
      refine NoPanic.normal ?_
      have HT6 : Hid (TrAt R wm base p W6 (.slice ra n rc) (.slice ga gn gc) L GV) := HT5.out.below HW6.out
      have hb6 : base ≤ W6.heap.size := Nat.le_trans hb (Nat.le_trans HB5.out.size HW6.out.size)
      obtain ⟨v8, w8, hrun8, ⟨ua, uc, hv8f⟩, hs8, hp8, hk8, hbl8, hv8, hZ8⟩ := HT6.out.row hb6 (lv := .slice la ln lc) (l := l) (HKP.out.next HW6.out.size (fun b hb _ => HW6.out.block b hb) (fun _ _ q => q)) rfl (by rw [hGl, ← Hgn.out]; omega)
      rw [hGl, ← Hgn.out] at hv8f
      subst hv8f
      have HZ8 : Hid (TrAt R wm base p ((w8.setCell ⟨p, 4, none⟩ (.slice ua (gn + 1) uc)).setCell ⟨p, 3, none⟩ (.slice va mn vc)) (.slice va mn vc) (.slice ua (gn + 1) uc) M (GV ++ [(.slice la ln lc, l)])) := HT5.out.task (Nat.le_trans hb HB5.out.size) HKP.out HW6.out HM6.out hs8 hk8 hv8 hZ8
      have hbp : base ≤ p := (HT5.out.lo p (.inl rfl)).1
      have HB8 : Hid (Below base w ((w8.setCell ⟨p, 4, none⟩ (.slice ua (gn + 1) uc)).setCell ⟨p, 3, none⟩ (.slice va mn vc))) := (((HB5.out.mono hb).trans ((HW6.out.mono (Nat.le_trans hb HB5.out.size)).trans hbl8)).setCell hbp _).setCell hbp _
      have HEnd : Hid (P (.returned (.bool true)) ((w8.setCell ⟨p, 4, none⟩ (.slice ua (gn + 1) uc)).setCell ⟨p, 3, none⟩ (.slice va mn vc))) := by
        have := HEND.out _ _ _ _ HB8.out HZ8.out (fun v K hK => keep_task HW6.out HM6.out hs8 hk8 hv8 (hK.next HB5.out.size (fun b hb _ => HB5.out.block b hb) (fun _ _ q => q)))
        exact this
      have HX6 : Hid (W6.heap[p]? = some (.cells #[.slice R.a R.len R.cap, .int .i64 R.kp, .int .i64 wm, .slice ra n rc, .slice ga gn gc] 29)) := HT6.out.bx
      have d4 := (cell_row HX6.out 4 (by simp)).1
      simp only [List.getElem_toArray, List.getElem_cons_zero, List.getElem_cons_succ] at d4
      have HX8 : Hid (w8.heap[p]? = some (.cells #[.slice R.a R.len R.cap, .int .i64 R.kp, .int .i64 wm, .slice ra n rc, .slice ga gn gc] 29)) := hp8.trans HX6.out
      obtain ⟨e4, f4⟩ := cell_row HX8.out 4 (by simp)
      simp only [List.getElem_toArray, List.getElem_cons_zero, List.getElem_cons_succ] at e4
      have HX9 : Hid ((w8.setCell ⟨p, 4, none⟩ (.slice ua (gn + 1) uc)).heap[p]? = some (.cells #[.slice R.a R.len R.cap, .int .i64 R.kp, .int .i64 wm, .slice ra n rc, .slice ua (gn + 1) uc] 29)) := hZ8.bx
      obtain ⟨e3, f3⟩ := cell_row HX9.out 3 (by simp)
      simp only [List.getElem_toArray, List.getElem_cons_zero, List.getElem_cons_succ] at e3
      clear hs8 hp8 hk8 hbl8 hv8 hZ8 HZ8 HB8 HM6 HW6 HT6 HT5 HEND
      go_wp2_with (at_builtin; refine wpList_app_runT rfl (.tmp 91) (.tmp 93) _ _ rfl rfl _ _ _ rfl rfl hrun8 ?_)
      (try go_ret)
      exact HEnd.out
end Go.Proofs.YthicmbjiblbcmaaGreat
