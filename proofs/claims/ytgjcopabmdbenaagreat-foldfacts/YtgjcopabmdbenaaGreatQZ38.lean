/- RE2, joined. -/
import Derived.Test.YtgjcopabmdbenaaGreatQZ33
import Derived.Test.YtgjcopabmdbenaaGreatQZ37
/- The contract of the reference's Facts (layer 15). -/
namespace Go.Proofs.YtgjcopabmdbenaaGreat
open Go.RowKit

theorem enF_fit {R : Rl} (hR : RightP R) {fs : List Fa} (hm : ∀ f ∈ fs, mayF f = true) : FitL R (enF R fs) := by
  intro y hy
  obtain ⟨z, hz, e⟩ := can_mem hy
  obtain ⟨f, hf, rfl⟩ := List.mem_map.1 hz
  have ok := fcI_ok hR (hm f hf)
  refine ⟨⟨f.D, f.t - f.t % R.sz 0, 0, ?_, ok.beg hR⟩, ?_, (can_gd (en_gd R fs) y hy).r⟩
  · rw [e]
    exact rdF_kb _ _ _ ok.r
  · refine can_pos (en_gd R fs) ?_ y hy
    intro u hu
    obtain ⟨q, _, rfl⟩ := List.mem_map.1 hu
    show (1 : Int) ≠ 0
    decide
theorem enF_keys {R : Rl} {fs : List Fa} (hm : ∀ f ∈ fs, mayF f = true) : ∀ x ∈ enF R fs, x.1.length ≤ 1000 := by
  intro y hy
  obtain ⟨z, hz, e⟩ := can_mem hy
  obtain ⟨f, hf, rfl⟩ := List.mem_map.1 hz
  have h := hm f hf
  unfold mayF at h
  simp only [Bool.and_eq_true] at h
  rw [e]
  show (kb f.D _ 0).length ≤ 1000
  rw [kb_len]
  obtain ⟨m1, m2⟩ := mayB_iff.1 h.2
  have := jb_len f.D m2
  unfold jn
  simp
  omega
theorem enF_fold {R : Rl} {wm : Int} (fs : List Fa) : foldF R wm (enF R fs) = foldF R wm (fs.map (fcE R)) := can_fm (fk R wm) (en_gd R fs) GdE.nil
theorem chk_nil {R : Rl} {wm : Int} : chkF R wm [] = fE R 0 wm := by
  by_cases h : fE R 0 wm = 0
  · rw [h]
    exact chkF_of h List.Pairwise.nil (fun x hx => by cases hx)
  · exact chkF_e h
set_option maxRecDepth 100000 in
set_option maxHeartbeats 4000000 in
theorem refFacts_any (R : Rl) (wm : Int) (v : Value) (fs : List Fa) (w : World) (hL : Lies R w.heap.size w) (hF : FReads w v fs) (hl : fs.length ≤ 100000) :
    Calls Tryz.prog 7 #[.agg #[.slice R.a R.len R.cap, .int .i64 R.kp], .int .i64 wm, v] w (FcPost R wm fs w) := by
  have HF : Hid (FReads w v fs) := hF
  have HL : Hid (Lies R w.heap.size w) := hL
  obtain ⟨a, cap, rfl, hm1, hm2⟩ := hF.form
  unfold maxLen at hm2
  clear hF hL
  obtain ⟨w1, HW1⟩ := hid_ex (w.alloc (.cells #[.slice R.a R.len R.cap, .int .i64 R.kp] 24))
  have HB1 : Hid (Below w.heap.size w w1) := by rw [HW1.out]; exact new_below _ _
  have HX1 : Hid (RBox R w.heap.size w1) := by rw [HW1.out]; exact RBox.new R w _
  go_enter Tryz.func7, Tryz.ntmps7
  go_wp2_with fail
  rw [← HW1.out]
  clear HW1
  refine (refCheck_any R wm (.slice none 0 0) [] _ (HL.out.at HB1.out) ⟨none, 0, rfl, by simp, by simp, .inl rfl⟩ (by simp) (fun x hx => by cases hx)).mono ?_
  rintro e w2 ⟨rfl, hb2⟩
  rw [chk_nil]
  have HB2 : Hid (Below w.heap.size w w2) := HB1.out.trans (hb2.mono HB1.out.size)
  have HX2 : Hid (RBox R w.heap.size w2) := HX1.out.below hb2
  clear hb2 HB1 HX1
  by_cases hc : fE R 0 wm = 0
  · have HC : Hid (fE R 0 wm = 0) := hc
    obtain ⟨hR, _, hT⟩ := fE_ok hc
    have HR : Hid (RightP R) := hR
    have HT : Hid (isT wm = true) := hT
    rw [hc]
    clear hc hR hT
    go_wp2_with fail
    go_loopw [9] (fun i wr => ∃ k : Nat, k ≤ fs.length ∧ i = .int .i64 (k : Int) ∧ Hid (∀ j (hj : j < fs.length), j < k → mayF fs[j] = true) ∧ Hid (Below w2.heap.size w2 wr)) (fun i _ => fs.length - (intOf i).toNat)
    case atStart => exact ⟨0, by omega, rfl, (fun j hj h => by omega), Below.refl _ _⟩
    case round =>
      obtain ⟨k, hk, rfl, HN, HW⟩ := hrel
      have HBr : Hid (Below w.heap.size w wr) := HB2.out.trans (HW.out.mono HB2.out.size)
      have HXr : Hid (RBox R w.heap.size wr) := HX2.out.below HW.out
      by_cases hlt : k < fs.length
      · obtain ⟨b, off, hv, hbw, hcw, hsr, hfb⟩ := FReads.at HF.out hlt
        subst hv
        have HNO : Hid (mayF fs[k] = false → fs.all mayF = false) := fun h => all_not hlt h
        have HGO : Hid (mayF fs[k] = true → ∀ j (hj : j < fs.length), j < k + 1 → mayF fs[j] = true) := fun h2 j hj hjk => by
          rcases Nat.lt_or_ge j k with h | h
          · exact HN.out j hj h
          · have : j = k := by omega
            subst this; exact h2
        obtain ⟨X, HX⟩ := hid_ex fs[k]
        rw [← HX.out] at hcw hsr hfb HNO HGO
        have HSR : Hid (SReads wr X.v X.D) := hsr.below HBr.out
        have HFB : Hid (FaB X) := hfb
        obtain ⟨va, vc, hXv, _⟩ := hsr.form
        obtain ⟨Xv, D, t, x⟩ := X
        simp only at hXv
        subst hXv
        have HMF := refMayF_any ⟨.slice va D.length vc, D, t, x⟩ wr HSR.out HFB.out
        obtain ⟨mf, Hmf⟩ := hid_ex (mayF ⟨.slice va D.length vc, D, t, x⟩)
        rw [← Hmf.out] at HNO HGO HMF
        simp only at HMF
        have HMF' : Hid (Calls Tryz.prog 20 #[.agg #[.slice va D.length vc, .int .i64 t, .int .i64 x]] wr fun e w' => e = .returned (.bool mf) ∧ Below wr.heap.size wr w') := HMF
        have c0 : wr.cell? ⟨b, off + k * 3, none⟩ = some (.slice va D.length vc) := (HBr.out.cell (p := ⟨b, off + k * 3, none⟩) hbw).trans (hcw 0 (by decide))
        have c1 : wr.cell? ⟨b, off + k * 3 + 1, none⟩ = some (.int .i64 t) := (HBr.out.cell (p := ⟨b, off + k * 3 + 1, none⟩) hbw).trans (hcw 1 (by decide))
        have c2 : wr.cell? ⟨b, off + k * 3 + 2, none⟩ = some (.int .i64 x) := (HBr.out.cell (p := ⟨b, off + k * 3 + 2, none⟩) hbw).trans (hcw 2 (by decide))
        clear hcw hsr hfb hbw HX HMF HSR HFB Hmf
        go_wp2_with fail
        refine HMF'.out.mono ?_
        rintro e w3 ⟨rfl, hb3⟩
        have HB3 : Hid (Below w2.heap.size w2 w3) := HW.out.trans (hb3.mono HW.out.size)
        have HBw3 : Hid (Below w.heap.size w w3) := HB2.out.trans (HB3.out.mono HB2.out.size)
        clear hb3 c0 c1 c2 HMF'
        cases mf with
        | true =>
          have HG3 : Hid (∀ j (hj : j < fs.length), j < k + 1 → mayF fs[j] = true) := HGO.out rfl
          go_wp2_with fail
          go_roundw
          case rel => exact ⟨k + 1, by omega, by go_num, HG3.out, HB3.out⟩
          case measure => simp [intOf]; omega
        | false =>
          have HEnd : Hid (FcPost R wm fs w (.returned (.tuple #[.slice none 0 0, .int .i64 110])) w3) := ⟨HBw3.out, .inr (.inl ⟨HC.out, HNO.out rfl, rfl⟩)⟩
          go_wp2_with fail
          go_ret2
          exact HEnd.out
      · have HAL : Hid (fs.all mayF = true) := all_may (fun j hj => HN.out j hj (by omega))
        have HMM : Hid (∀ f ∈ fs, mayF f = true) := fun f hf => List.all_eq_true.1 HAL.out f hf
        have HLr : Hid (∀ W, Below wr.heap.size wr W → Lies R W.heap.size W ∧ RBox R w.heap.size W ∧ Below w.heap.size w W ∧ FReads W (.slice a fs.length cap) fs) := fun W hW => by
          have hb := HBr.out.trans (hW.mono HBr.out.size)
          exact ⟨HL.out.at hb, HXr.out.below hW, hb, HF.out.below hb⟩
        have HCK : Hid (chkF R wm (enF R fs) = 0) := chkF_of HC.out (can_srt _) (enF_fit HR.out HMM.out)
        have HLN : Hid ((enF R fs).length ≤ 100000) := Nat.le_trans (enF_len R fs) hl
        clear HN
        go_wp2_with fail
        refine wp_region_noPanic ?_
        refine wp_region_held_drew (S := (fun w' => Below wr.heap.size wr w')) (by kernel_rfl) ?_ (fun hHeld => ?_)
        · exact (Below.refl _ _).drew
        refine wpAnyH_take (i := 0) (v := .agg #[.slice R.a R.len R.cap, .int .i64 R.kp]) rfl (by kernel_rfl) (by kernel_rfl) (by kernel_rfl) (fun _ _ _ h => h) (Or.inl ⟨by rfl, ?_⟩) (by assumption) ?_
        · (intro w1 hSw; (try dsimp only at hSw); obtain ⟨r0, r1⟩ := (HLr.out _ hSw).2.1.at; go_simp)
        simp only [List.getElem_toArray, List.getElem_cons_zero, Act.put, List.setIfInBounds_toArray, List.set_cons_zero, List.set_cons_succ]
        refine wpAnyH_take (i := 1) (v := .int .i64 wm) rfl (by kernel_rfl) (by kernel_rfl) (by kernel_rfl) (fun _ _ _ h => h) (Or.inl ⟨by rfl, ?_⟩) (by assumption) ?_
        · (intro w1 hSw; (try dsimp only at hSw); go_simp)
        simp only [List.getElem_toArray, List.getElem_cons_succ, List.getElem_cons_zero, Act.put, List.setIfInBounds_toArray, List.set_cons_zero, List.set_cons_succ]
        refine wpAnyH_take (i := 2) (v := .agg #[.slice R.a R.len R.cap, .int .i64 R.kp]) rfl (by kernel_rfl) (by kernel_rfl) (by kernel_rfl) (fun _ _ _ h => h) (Or.inl ⟨by rfl, ?_⟩) (by assumption) ?_
        · (intro w1 hSw; (try dsimp only at hSw); obtain ⟨r0, r1⟩ := (HLr.out _ hSw).2.1.at; go_simp)
        simp only [List.getElem_toArray, List.getElem_cons_succ, List.getElem_cons_zero, Act.put, List.setIfInBounds_toArray, List.set_cons_zero, List.set_cons_succ]
        refine wpAnyH_take (i := 3) (v := .slice a fs.length cap) rfl (by kernel_rfl) (by kernel_rfl) (by kernel_rfl) (fun _ _ _ h => h) (Or.inl ⟨by rfl, ?_⟩) (by assumption) ?_
        · (intro w1 hSw; (try dsimp only at hSw); go_simp)
        simp only [List.getElem_toArray, List.getElem_cons_succ, List.getElem_cons_zero, Act.put, List.setIfInBounds_toArray, List.set_cons_zero, List.set_cons_succ]
        refine wpAnyH_ready (rs := [4]) (by kernel_rfl) (by simp) ?_
        refine AllReadyH.cons (o := _) rfl (fun K hK => ?_) AllReadyH.nil
        go_simp
        refine (refEntries_any R HR.out _ fs _ (HLr.out _ (Below.refl _ _).drew).1 (HLr.out _ (Below.refl _ _).drew).2.2.2 hl HMM.out).mono ?_
        rintro e w3 ⟨v3, rfl, hr3, hb3⟩
        have HW3 : Hid (Below wr.heap.size wr w3) := (Below.refl wr.heap.size wr).drew.trans hb3
        have HR3 : Hid (EReads w3 v3 (enF R fs)) := hr3
        clear hb3 hr3
        refine hK.out _ _ ?_ (fun hHeld => ?_)
        · exact HW3.out
        clear hK K
        refine wpAnyH_ready (rs := [5]) (by kernel_rfl) (by simp) ?_
        refine AllReadyH.cons (o := _) rfl (fun K hK => ?_) AllReadyH.nil
        go_simp
        refine (refFold_any R wm _ (enF R fs) _ (HLr.out _ HW3.out).1 HR3.out HLN.out (enF_keys HMM.out)).mono ?_
        rintro e w4 ⟨hb4, ⟨hne, _⟩ | ⟨_, v4, rfl, hr4⟩⟩
        · exact absurd HCK.out hne
        · have HW4 : Hid (Below wr.heap.size wr w4) := HW3.out.trans (hb4.mono HW3.out.size)
          have HEnd : Hid (FcPost R wm fs w (.returned (.tuple #[v4, .int .i64 0])) w4) := by
            refine ⟨(HLr.out _ HW4.out).2.2.1, .inr (.inr ⟨HC.out, HAL.out, v4, rfl, ?_⟩)⟩
            rw [enF_fold] at hr4
            exact hr4
          obtain ⟨a4, c4, rfl, _⟩ := hr4.form
          clear hb4 hr4
          refine hK.out _ _ ?_ (fun hHeld => ?_)
          · exact HW4.out
          clear hK K
          refine wpAnyH_take (i := 6) (v := .slice a4 (foldF R wm (enF R fs)).length c4) rfl (by kernel_rfl) (by kernel_rfl) (by kernel_rfl) (fun _ _ _ h => h) (Or.inl ⟨by rfl, ?_⟩) (by assumption) ?_
          · (intro w1 hSw; (try dsimp only at hSw); go_simp)
          simp only [List.getElem_toArray, List.getElem_cons_succ, List.getElem_cons_zero, Act.put, List.setIfInBounds_toArray, List.set_cons_zero, List.set_cons_succ]
          refine wpAnyH_take (i := 7) (v := .int .i64 0) rfl (by kernel_rfl) (by kernel_rfl) (by kernel_rfl) (fun _ _ _ h => h) (Or.inl ⟨by rfl, ?_⟩) (by assumption) ?_
          · (intro w1 hSw; (try dsimp only at hSw); go_simp)
          simp only [List.getElem_toArray, List.getElem_cons_succ, List.getElem_cons_zero, Act.put, List.setIfInBounds_toArray, List.set_cons_zero, List.set_cons_succ]
          refine wpAnyH_take (i := 8) (v := .slice a4 (foldF R wm (enF R fs)).length c4) rfl (by kernel_rfl) (by kernel_rfl) (by kernel_rfl) (fun _ _ _ h => h) (Or.inl ⟨by rfl, ?_⟩) (by assumption) ?_
          · (intro w1 hSw; (try dsimp only at hSw); go_simp)
          simp only [List.getElem_toArray, List.getElem_cons_succ, List.getElem_cons_zero, Act.put, List.setIfInBounds_toArray, List.set_cons_zero, List.set_cons_succ]
          refine wpAnyH_take (i := 9) (v := .int .i64 0) rfl (by kernel_rfl) (by kernel_rfl) (by kernel_rfl) (fun _ _ _ h => h) (Or.inl ⟨by rfl, ?_⟩) (by assumption) ?_
          · (intro w1 hSw; (try dsimp only at hSw); go_simp)
          simp only [List.getElem_toArray, List.getElem_cons_succ, List.getElem_cons_zero, Act.put, List.setIfInBounds_toArray, List.set_cons_zero, List.set_cons_succ]
          clear hHeld
          refine wpAnyH_done (by kernel_rfl) ?_ _
          refine NoPanic.normal ?_
          go_wp2_with fail
          go_ret2
          exact HEnd.out
  · have hb0 : (fE R 0 wm == 0) = false := by simp [hc]
    have HEnd : Hid (FcPost R wm fs w (.returned (.tuple #[.slice none 0 0, .int .i64 (fE R 0 wm)])) w2) := ⟨HB2.out, .inl ⟨hc, rfl⟩⟩
    obtain ⟨E, HEE⟩ := hid_ex (fE R 0 wm)
    rw [← HEE.out] at hb0 hc HEnd ⊢
    go_wp2_with fail
    go_ret2
    exact HEnd.out
end Go.Proofs.YtgjcopabmdbenaaGreat
