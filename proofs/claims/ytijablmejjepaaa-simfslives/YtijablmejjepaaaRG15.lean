/- The document's file system: Sync. -/
import Derived.Test.YtijablmejjepaaaRG14
namespace Go.Proofs.Ytijablmejjepaaa
open Go.RowKit Go.Maps Go.Sort

theorem own_bown {w : World} {base : Nat} {v : Value} {l : List UInt8} (h : Own w base v l) : BOwn w v l := by
  refine ⟨by simp, ?_⟩
  rcases h.2 with ⟨h1, h2⟩ | ⟨g, cap, cur, hv, hg, hw, hc, hm, hs, hl⟩
  · exact .inl ⟨h1, h2⟩
  · exact .inr ⟨g, cap, cur, hv, hw, hc, hm, by omega, hl⟩
theorem plan_fls (s : SfS) : (sfPlan s).2.fls = s.fls ∧ (sfPlan s).2.dir = s.dir ∧ (sfPlan s).2.room = s.room := by unfold sfPlan; split; exact ⟨rfl, rfl, rfl⟩; split <;> exact ⟨rfl, rfl, rfl⟩
theorem rlook_mem {n : List UInt8} {l : List (List UInt8 × Nat)} {i : Nat} (h : sfLook n l = some i) : ∃ p ∈ l, p.2 = i := by
  unfold sfLook at h
  cases hf : l.find? fun p => p.1 == n with
  | none => rw [hf] at h; cases h
  | some p => rw [hf] at h; simp at h; exact ⟨p, List.mem_of_find?_eq_some hf, h⟩
theorem wf_plan {s : SfS} (h : SfWf s) : SfWf (sfPlan s).2 := by
  unfold sfPlan
  split
  · exact h
  · split
    · rename_i h1 h2
      exact ⟨h.r1, h.r2, by show -9223372036854775808 ≤ s.left - 1; omega, by have := h.l2; show s.left - 1 < 9223372036854775808; omega, h.di, h.oi, h.pi, h.ap, h.ln, h.sy⟩
    · exact ⟨h.r1, h.r2, h.l1, h.l2, h.di, h.oi, h.pi, h.ap, h.ln, h.sy⟩
set_option maxRecDepth 100000 in
set_option maxHeartbeats 4000000 in
theorem refSync_any {w : World} {O : Nat → Prop} {g : Nat} {vf vd vo vp : Value} {af ee : Int} {fb : Nat → Nat} {va vb : Nat → Value} {s : SfS} (h : RfAt w O g vf vd vo vp af ee fb va vb s) (hw : SfWf s) (n : List UInt8) :
    Calls Try.prog 23 #[.pointer (some ⟨g, 0, none⟩), .string ⟨n.toArray⟩] w fun e w' => e = .returned (.int .i64 (sfSync s n).1) ∧ RfTo w w' O g (sfSync s n).2 := by
  have hdl := dir_len hw
  have HFn : Hid (Calls Try.prog 42 #[.pointer (some ⟨g, 0, none⟩), .string ⟨n.toArray⟩] w _) := refFind_any h.hd h.c1.2.1 n (by omega)
  have HR : Hid (RfAt w O g vf vd vo vp af ee fb va vb s) := h
  have HLt : Hid (∀ k, O k → k < w.heap.size) := h.lt
  have HW : Hid (SfWf s) := hw
  have HPl : Hid (Calls Try.prog 44 #[.pointer (some ⟨g, 0, none⟩)] w _) := refPlanR h hw
  have HRm : Hid (sfSync s n = match sfLook n s.dir with | none => (4, s) | some i => if (sfPlan s).1 = 0 then (0, (sfPlan s).2.setF i ((s.fl i).1, (s.fl i).1.length)) else sfPlan s) := rfl
  obtain ⟨R, HRe⟩ := hid_ex (sfSync s n)
  rw [← HRe.out] at HRm ⊢
  clear h hw hdl HRe
  cases hl : sfLook n s.dir with
  | none =>
    rw [hl] at HFn HRm
    simp only [rfN] at HFn HRm
    have hneg : (-1 : Int) < 0 := by omega
    clear hl HPl
    go_enter Try.func23, Try.ntmps23
    go_wp2_with fail
    refine HFn.out.mono ?_
    rintro e w1 ⟨rfl, hw1⟩
    subst w1
    go_wp2_with fail
    go_ret
    rw [HRm.out]
    exact ⟨rfl, HR.out.to⟩
  | some i =>
    have HIl : Hid (i < s.fls.length) := by
      obtain ⟨p, hp, rfl⟩ := rlook_mem hl
      exact (HW.out.di p hp).1
    rw [hl] at HFn HRm
    simp only [rfN] at HFn HRm
    have hnn : ¬ (i : Int) < 0 := by omega
    obtain ⟨E, HE⟩ := hid_ex (sfPlan s).1
    obtain ⟨S1, HS1⟩ := hid_ex (sfPlan s).2
    have HWp : Hid (SfWf S1) := by rw [HS1.out]; exact wf_plan HW.out
    have HFl : Hid (S1.fl i = s.fl i ∧ i < S1.fls.length) := by
      have h1 := (plan_fls s).1
      rw [← HS1.out] at h1
      exact ⟨by unfold SfS.fl; rw [h1], by rw [h1]; exact HIl.out⟩
    have HPr : Hid (sfPlan s = (E, S1)) := by rw [HE.out, HS1.out]; rfl
    rw [← HE.out, ← HS1.out] at HPl
    rw [← HE.out, ← HS1.out, HPr.out] at HRm
    rw [← HFl.out.1] at HRm
    clear hl HE HS1 HPr
    go_enter Try.func23, Try.ntmps23
    go_wp2_with fail
    refine HFn.out.mono ?_
    rintro e w1 ⟨rfl, hw1⟩
    subst w1
    go_wp2_with fail
    refine HPl.out.mono ?_
    clear HPl HFn
    rintro e w1 ⟨rfl, ⟨af1, ee1, hr1⟩, ho1, hz1⟩
    have HR1 : Hid (RfAt w1 O g vf vd vo vp af1 ee1 fb va vb S1) := hr1
    have HO1 : Hid (Onl O w w1) := ho1
    have HZ1 : Hid (w1.heap.size = w.heap.size) := hz1
    clear hr1 ho1 hz1
    by_cases hE : E = 0
    · subst hE
      have HRq : Hid (R = (0, S1.setF i ((S1.fl i).1, (S1.fl i).1.length))) := by unfold Hid; rw [HRm.out, if_pos rfl]
      clear HRm
      obtain ⟨q, cap, hvf, hq, c0, d0, d1, hfb, hA, hB⟩ := HR1.out.file HFl.out.2
      obtain ⟨cf, _⟩ := HR1.out.c1
      subst hvf
      obtain ⟨FLN, HFN⟩ : ∃ n, Hid (S1.fls.length = n) := ⟨_, rfl⟩
      have hgl : g < w1.heap.size := HR1.out.lt g HR1.out.og
      have hiF := HFl.out.2
      rw [HFN.out] at cf hiF
      have hiF' : (i : Int) < (FLN : Int) := by omega
      have hbt := HR1.out.fl.hf i _ (fl_at HFl.out.2)
      have hgq : g ≠ q ∧ fb i ≠ g ∧ fb i ≠ q := by
        obtain ⟨cur, hb⟩ := HR1.out.nf.block (k := q) rfl
        exact ⟨ty_ne HR1.out.c hb (by decide), ty_ne hbt HR1.out.c (by decide), ty_ne hbt hb (by decide)⟩
      have HS : Hid (w1.drew.cell? ⟨g, 1, none⟩ = some (.slice (some ⟨q, 0, none⟩) FLN cap) ∧ w1.drew.cell? ⟨q, i, none⟩ = some (.pointer (some ⟨fb i, 0, none⟩))) := ⟨cf, c0⟩
      have HNe : Hid (g ≠ q ∧ fb i ≠ g ∧ fb i ≠ q) := hgq
      have HLs : Hid (g < w1.heap.size ∧ q < w1.heap.size ∧ fb i < w1.heap.size) := ⟨hgl, hq, hfb⟩
      have HBt : Hid (w1.heap[fb i]? = some (.cells #[va i, vb i] 79)) := hbt
      have HBy : Hid (Calls Try.prog 32 #[.pointer (some ⟨g, 0, none⟩), .int .i64 (i : Int)] w1.drew _) := refBytes_any (w := w1.drew) (HR1.out.below (Below.refl _ _).drew) HWp.out HFl.out.2
      obtain ⟨B0, HB0⟩ := hid_ex (fb i)
      rw [← HB0.out] at HS HNe HLs HBt
      clear cf c0 d0 d1 hq hfb hA hB hgl hiF hbt hgq
      go_wp2_with fail
      refine wp_region_noPanic ?_
      refine wp_region_held_drew (S := (fun w' => w'.cell? ⟨g, 1, none⟩ = some (.slice (some ⟨q, 0, none⟩) FLN cap) ∧ w'.cell? ⟨q, i, none⟩ = some (.pointer (some ⟨B0, 0, none⟩)))) (by kernel_rfl) ?_ (fun hHeld => ?_)
      · exact HS.out
      refine wpAnyH_take (i := 0) (v := .pointer (some ⟨g, 0, none⟩)) rfl (by kernel_rfl) (by kernel_rfl) (by kernel_rfl) (fun _ _ _ h => h) (Or.inl ⟨by rfl, ?_⟩) (by assumption) ?_
      · (intro w1 hSw; (try dsimp only at hSw); go_simp)
      simp only [List.getElem_toArray, List.getElem_cons_zero, Act.put, List.setIfInBounds_toArray, List.set_cons_zero, List.set_cons_succ]
      refine wpAnyH_take (i := 1) (v := .pointer (some ⟨g, 0, none⟩)) rfl (by kernel_rfl) (by kernel_rfl) (by kernel_rfl) (fun _ _ _ h => h) (Or.inl ⟨by rfl, ?_⟩) (by assumption) ?_
      · (intro w1 hSw; (try dsimp only at hSw); go_simp)
      simp only [List.getElem_toArray, List.getElem_cons_succ, List.getElem_cons_zero, Act.put, List.setIfInBounds_toArray, List.set_cons_zero, List.set_cons_succ]
      refine wpAnyH_take (i := 2) (v := .pointer (some ⟨g, 1, none⟩)) rfl (by kernel_rfl) (by kernel_rfl) (by kernel_rfl) (fun _ _ _ h => h) (Or.inl ⟨by rfl, ?_⟩) (by assumption) ?_
      · (intro w1 hSw; (try dsimp only at hSw); go_simp)
      simp only [List.getElem_toArray, List.getElem_cons_succ, List.getElem_cons_zero, Act.put, List.setIfInBounds_toArray, List.set_cons_zero, List.set_cons_succ]
      refine wpAnyH_take (i := 3) (v := .slice (some ⟨q, 0, none⟩) FLN cap) rfl (by kernel_rfl) (by kernel_rfl) (by kernel_rfl) (fun _ _ _ h => h) (Or.inl ⟨by rfl, ?_⟩) (by assumption) ?_
      · (intro w1 hSw; (try dsimp only at hSw); have h0 := hSw.1; go_simp)
      simp only [List.getElem_toArray, List.getElem_cons_succ, List.getElem_cons_zero, Act.put, List.setIfInBounds_toArray, List.set_cons_zero, List.set_cons_succ]
      refine wpAnyH_take (i := 4) (v := .int .i64 (i : Int)) rfl (by kernel_rfl) (by kernel_rfl) (by kernel_rfl) (fun _ _ _ h => h) (Or.inl ⟨by rfl, ?_⟩) (by assumption) ?_
      · (intro w1 hSw; (try dsimp only at hSw); go_simp)
      simp only [List.getElem_toArray, List.getElem_cons_succ, List.getElem_cons_zero, Act.put, List.setIfInBounds_toArray, List.set_cons_zero, List.set_cons_succ]
      refine wpAnyH_take (i := 5) (v := .pointer (some ⟨q, i, none⟩)) rfl (by kernel_rfl) (by kernel_rfl) (by kernel_rfl) (fun _ _ _ h => h) (Or.inl ⟨by rfl, ?_⟩) (by assumption) ?_
      · (intro w1 hSw; (try dsimp only at hSw); go_simp)
      simp only [List.getElem_toArray, List.getElem_cons_succ, List.getElem_cons_zero, Act.put, List.setIfInBounds_toArray, List.set_cons_zero, List.set_cons_succ]
      refine wpAnyH_take (i := 6) (v := .pointer (some ⟨B0, 0, none⟩)) rfl (by kernel_rfl) (by kernel_rfl) (by kernel_rfl) (fun _ _ _ h => h) (Or.inl ⟨by rfl, ?_⟩) (by assumption) ?_
      · (intro w1 hSw; (try dsimp only at hSw); have h0 := hSw.2; go_simp)
      simp only [List.getElem_toArray, List.getElem_cons_succ, List.getElem_cons_zero, Act.put, List.setIfInBounds_toArray, List.set_cons_zero, List.set_cons_succ]
      refine wpAnyH_take (i := 7) (v := .pointer (some ⟨g, 0, none⟩)) rfl (by kernel_rfl) (by kernel_rfl) (by kernel_rfl) (fun _ _ _ h => h) (Or.inl ⟨by rfl, ?_⟩) (by assumption) ?_
      · (intro w1 hSw; (try dsimp only at hSw); go_simp)
      simp only [List.getElem_toArray, List.getElem_cons_succ, List.getElem_cons_zero, Act.put, List.setIfInBounds_toArray, List.set_cons_zero, List.set_cons_succ]
      refine wpAnyH_take (i := 8) (v := .pointer (some ⟨g, 0, none⟩)) rfl (by kernel_rfl) (by kernel_rfl) (by kernel_rfl) (fun _ _ _ h => h) (Or.inl ⟨by rfl, ?_⟩) (by assumption) ?_
      · (intro w1 hSw; (try dsimp only at hSw); go_simp)
      simp only [List.getElem_toArray, List.getElem_cons_succ, List.getElem_cons_zero, Act.put, List.setIfInBounds_toArray, List.set_cons_zero, List.set_cons_succ]
      refine wpAnyH_take (i := 9) (v := .pointer (some ⟨g, 1, none⟩)) rfl (by kernel_rfl) (by kernel_rfl) (by kernel_rfl) (fun _ _ _ h => h) (Or.inl ⟨by rfl, ?_⟩) (by assumption) ?_
      · (intro w1 hSw; (try dsimp only at hSw); go_simp)
      simp only [List.getElem_toArray, List.getElem_cons_succ, List.getElem_cons_zero, Act.put, List.setIfInBounds_toArray, List.set_cons_zero, List.set_cons_succ]
      refine wpAnyH_take (i := 10) (v := .slice (some ⟨q, 0, none⟩) FLN cap) rfl (by kernel_rfl) (by kernel_rfl) (by kernel_rfl) (fun _ _ _ h => h) (Or.inl ⟨by rfl, ?_⟩) (by assumption) ?_
      · (intro w1 hSw; (try dsimp only at hSw); have h0 := hSw.1; go_simp)
      simp only [List.getElem_toArray, List.getElem_cons_succ, List.getElem_cons_zero, Act.put, List.setIfInBounds_toArray, List.set_cons_zero, List.set_cons_succ]
      refine wpAnyH_take (i := 11) (v := .int .i64 (i : Int)) rfl (by kernel_rfl) (by kernel_rfl) (by kernel_rfl) (fun _ _ _ h => h) (Or.inl ⟨by rfl, ?_⟩) (by assumption) ?_
      · (intro w1 hSw; (try dsimp only at hSw); go_simp)
      simp only [List.getElem_toArray, List.getElem_cons_succ, List.getElem_cons_zero, Act.put, List.setIfInBounds_toArray, List.set_cons_zero, List.set_cons_succ]
      refine wpAnyH_take (i := 12) (v := .pointer (some ⟨q, i, none⟩)) rfl (by kernel_rfl) (by kernel_rfl) (by kernel_rfl) (fun _ _ _ h => h) (Or.inl ⟨by rfl, ?_⟩) (by assumption) ?_
      · (intro w1 hSw; (try dsimp only at hSw); go_simp)
      simp only [List.getElem_toArray, List.getElem_cons_succ, List.getElem_cons_zero, Act.put, List.setIfInBounds_toArray, List.set_cons_zero, List.set_cons_succ]
      refine wpAnyH_take (i := 13) (v := .pointer (some ⟨B0, 0, none⟩)) rfl (by kernel_rfl) (by kernel_rfl) (by kernel_rfl) (fun _ _ _ h => h) (Or.inl ⟨by rfl, ?_⟩) (by assumption) ?_
      · (intro w1 hSw; (try dsimp only at hSw); have h0 := hSw.2; go_simp)
      simp only [List.getElem_toArray, List.getElem_cons_succ, List.getElem_cons_zero, Act.put, List.setIfInBounds_toArray, List.set_cons_zero, List.set_cons_succ]
      refine wpAnyH_take (i := 14) (v := .pointer (some ⟨g, 0, none⟩)) rfl (by kernel_rfl) (by kernel_rfl) (by kernel_rfl) (fun _ _ _ h => h) (Or.inl ⟨by rfl, ?_⟩) (by assumption) ?_
      · (intro w1 hSw; (try dsimp only at hSw); go_simp)
      simp only [List.getElem_toArray, List.getElem_cons_succ, List.getElem_cons_zero, Act.put, List.setIfInBounds_toArray, List.set_cons_zero, List.set_cons_succ]
      refine wpAnyH_take (i := 15) (v := .int .i64 (i : Int)) rfl (by kernel_rfl) (by kernel_rfl) (by kernel_rfl) (fun _ _ _ h => h) (Or.inl ⟨by rfl, ?_⟩) (by assumption) ?_
      · (intro w1 hSw; (try dsimp only at hSw); go_simp)
      simp only [List.getElem_toArray, List.getElem_cons_succ, List.getElem_cons_zero, Act.put, List.setIfInBounds_toArray, List.set_cons_zero, List.set_cons_succ]
      refine wpAnyH_ready (rs := [16]) (by kernel_rfl) (by simp) ?_
      refine AllReadyH.cons (o := _) rfl (fun K hK => ?_) AllReadyH.nil
      go_simp
      refine HBy.out.mono ?_
      clear HBy
      rintro e w2 ⟨v2, rfl, ho2, hb2⟩
      have hb12 : Below w1.heap.size w1 w2 := (Below.refl w1.heap.size w1).drew.trans hb2
      have HB2 : Hid (Below w1.heap.size w1 w2) := hb12
      have HO2 : Hid (Own w2 w1.heap.size v2 (S1.fl i).1) := ho2
      have hb2t := (hb12.block B0 HLs.out.2.2).trans HBt.out
      have HT2 : Hid (w2.heap[B0]? = some (.cells #[va i, vb i] 79)) := hb2t
      have HS2 : Hid (w2.cell? ⟨g, 1, none⟩ = some (.slice (some ⟨q, 0, none⟩) FLN cap) ∧ w2.cell? ⟨q, i, none⟩ = some (.pointer (some ⟨B0, 0, none⟩))) := ⟨(hb12.cell (p := ⟨g, 1, none⟩) HLs.out.1).trans HS.out.1, (hb12.cell (p := ⟨q, i, none⟩) HLs.out.2.1).trans HS.out.2⟩
      obtain ⟨a2, c2, hv2, _⟩ := ho2.form
      obtain ⟨XL, HXL⟩ : ∃ n, Hid ((S1.fl i).1.length = n) := ⟨_, rfl⟩
      rw [HXL.out] at hv2
      subst hv2
      clear hb2 hb12 ho2 hb2t
      go_simp
      refine hK.out _ _ ?_ (fun hHeld => ?_)
      · exact HS2.out
      clear hK K
      refine wpAnyH_take (i := 17) (v := .pointer (some ⟨B0, 0, none⟩)) rfl (by kernel_rfl) (by kernel_rfl) (by kernel_rfl) (fun _ _ _ h => h) (Or.inl ⟨by rfl, ?_⟩) (by assumption) ?_
      · (intro w1 hSw; (try dsimp only at hSw); go_simp)
      simp only [List.getElem_toArray, List.getElem_cons_succ, List.getElem_cons_zero, Act.put, List.setIfInBounds_toArray, List.set_cons_zero, List.set_cons_succ]
      refine wpAnyH_take (i := 18) (v := .pointer (some ⟨B0, 0, none⟩)) rfl (by kernel_rfl) (by kernel_rfl) (by kernel_rfl) (fun _ _ _ h => h) (Or.inl ⟨by rfl, ?_⟩) (by assumption) ?_
      · (intro w1 hSw; (try dsimp only at hSw); go_simp)
      simp only [List.getElem_toArray, List.getElem_cons_succ, List.getElem_cons_zero, Act.put, List.setIfInBounds_toArray, List.set_cons_zero, List.set_cons_succ]
      have e0 := cell_of HT2.out 0 _ rfl
      have f0 : w2.frozen? ⟨B0, 0, none⟩ = false := by simp [World.frozen?, HT2.out]
      have HT3 : Hid ((w2.setCell ⟨B0, 0, none⟩ (.slice a2 XL c2)).heap[B0]? = some (.cells #[.slice a2 XL c2, vb i] 79)) := by
        have := cells_set HT2.out 0 (.slice a2 XL c2); simpa [Hid] using this
      have HS3 : Hid ((w2.setCell ⟨B0, 0, none⟩ (.slice a2 XL c2)).cell? ⟨g, 1, none⟩ = some (.slice (some ⟨q, 0, none⟩) FLN cap) ∧ (w2.setCell ⟨B0, 0, none⟩ (.slice a2 XL c2)).cell? ⟨q, i, none⟩ = some (.pointer (some ⟨B0, 0, none⟩))) := ⟨(World.cell?_of_block (a := ⟨g, 1, none⟩) (Go.heap_setCell_other _ _ _ _ HNe.out.2.1.symm)).trans HS2.out.1, (World.cell?_of_block (a := ⟨q, i, none⟩) (Go.heap_setCell_other _ _ _ _ HNe.out.2.2.symm)).trans HS2.out.2⟩
      refine wpAnyH_ready (rs := [19]) (by kernel_rfl) (by simp) ?_
      refine AllReadyH.cons (o := _) rfl (fun K hK => ?_) AllReadyH.nil
      go_simp
      refine hK.out _ _ ?_ (fun hHeld => ?_)
      · exact HS3.out
      clear hK K
      refine wpAnyH_take (i := 20) (v := .pointer (some ⟨B0, 0, none⟩)) rfl (by kernel_rfl) (by kernel_rfl) (by kernel_rfl) (fun _ _ _ h => h) (Or.inl ⟨by rfl, ?_⟩) (by assumption) ?_
      · (intro w1 hSw; (try dsimp only at hSw); go_simp)
      simp only [List.getElem_toArray, List.getElem_cons_succ, List.getElem_cons_zero, Act.put, List.setIfInBounds_toArray, List.set_cons_zero, List.set_cons_succ]
      refine wpAnyH_take (i := 21) (v := .pointer (some ⟨B0, 1, none⟩)) rfl (by kernel_rfl) (by kernel_rfl) (by kernel_rfl) (fun _ _ _ h => h) (Or.inl ⟨by rfl, ?_⟩) (by assumption) ?_
      · (intro w1 hSw; (try dsimp only at hSw); go_simp)
      simp only [List.getElem_toArray, List.getElem_cons_succ, List.getElem_cons_zero, Act.put, List.setIfInBounds_toArray, List.set_cons_zero, List.set_cons_succ]
      obtain ⟨w3, HW3⟩ := hid_ex (w2.setCell ⟨B0, 0, none⟩ (.slice a2 XL c2))
      rw [← HW3.out] at HT3 HS3 hHeld ⊢
      have e1 := cell_of HT3.out 1 _ rfl
      have f1 : w3.frozen? ⟨B0, 1, none⟩ = false := by simp [World.frozen?, HT3.out]
      have HT4 : Hid ((w3.setCell ⟨B0, 1, none⟩ (.slice none 0 0)).heap[B0]? = some (.cells #[.slice a2 XL c2, .slice none 0 0] 79)) := by
        have := cells_set HT3.out 1 (.slice none 0 0); simpa [Hid] using this
      have HS4 : Hid ((w3.setCell ⟨B0, 1, none⟩ (.slice none 0 0)).cell? ⟨g, 1, none⟩ = some (.slice (some ⟨q, 0, none⟩) FLN cap) ∧ (w3.setCell ⟨B0, 1, none⟩ (.slice none 0 0)).cell? ⟨q, i, none⟩ = some (.pointer (some ⟨B0, 0, none⟩))) := ⟨(World.cell?_of_block (a := ⟨g, 1, none⟩) (Go.heap_setCell_other _ _ _ _ HNe.out.2.1.symm)).trans HS3.out.1, (World.cell?_of_block (a := ⟨q, i, none⟩) (Go.heap_setCell_other _ _ _ _ HNe.out.2.2.symm)).trans HS3.out.2⟩
      refine wpAnyH_ready (rs := [22]) (by kernel_rfl) (by simp) ?_
      refine AllReadyH.cons (o := _) rfl (fun K hK => ?_) AllReadyH.nil
      go_simp
      refine hK.out _ _ ?_ (fun hHeld => ?_)
      · exact HS4.out
      clear hK K
      refine wpAnyH_done (by kernel_rfl) ?_ _
      refine NoPanic.normal ?_
      obtain ⟨w4, HW4⟩ := hid_ex (w3.setCell ⟨B0, 1, none⟩ (.slice none 0 0))
      have hs4 : w4.heap.size = w2.heap.size := by rw [HW4.out, HW3.out]; simp [World.setCell]
      have hk4 : ∀ k, k ≠ B0 → w4.heap[k]? = w2.heap[k]? := fun k hk => by rw [HW4.out, Go.heap_setCell_other _ _ _ _ hk, HW3.out, Go.heap_setCell_other _ _ _ _ hk]
      have hon : Onl O w1 w4 := by
        have h12 : Onl O w1 w2 := onl_of_below HB2.out
        have hOB : O B0 := by rw [HB0.out]; exact HR1.out.fl.ob i HFl.out.2
        have h23 : Onl O w2 w3 := by rw [HW3.out]; exact Onl.set hOB _
        have h34 : Onl O w3 w4 := by rw [HW4.out]; exact Onl.set hOB _
        exact (h12.then h23).then h34
      rw [← HW4.out] at HT4 hHeld ⊢
      have hs12 := HB2.out.size
      have HEnd : Hid (RfTo w w4 O g (S1.setF i ((S1.fl i).1, (S1.fl i).1.length))) := by
        have hr : RfAt w4 (Grw O w w4) g (.slice (some ⟨q, 0, none⟩) S1.fls.length cap) vd vo vp af1 ee1 fb (updF va i (.slice a2 XL c2)) (updF vb i (.slice none 0 0)) (S1.setF i ((S1.fl i).1, (S1.fl i).1.length)) := by
          refine HR1.out.setI (fun k q => .inl q) (Grw.lt HLt.out (HO1.out.then hon).size) HFl.out.2 (fun k ho hb hv => ?_) ?_ ?_ ?_ (fun k q => ?_) (fun k q => ?_) (fun k q => ?_)
          · exact (hk4 k (by rw [HB0.out]; exact hb)).trans (HB2.out.block k (HR1.out.lt k ho))
          · rw [← HB0.out]; exact HT4.out
          · have ho := own_bown HO2.out
            simp only [List.take_length]
            exact GOwn.keep ho fun k hk => hk4 k (fun e => by
              subst e
              obtain ⟨cur, hb⟩ := GOwn.block ho hk
              exact ty_ne hb HT2.out (by decide) rfl)
          · simp only [List.drop_length]; exact GOwn.nil _ _ _
          · have h1 := own_block HO2.out k q
            have h2 : k < w2.heap.size := by
              obtain ⟨cur, hb⟩ := GOwn.block (own_bown HO2.out) q
              exact (Array.getElem?_eq_some_iff.1 hb).1
            exact .inr ⟨h1, .inr (by have := HZ1.out; omega)⟩
          · simp [Value.ownBlock] at q
          · simp [Value.ownBlock] at q
        exact ⟨⟨_, _, _, _, _, _, _, _, _, hr⟩, HO1.out.then hon⟩
      clear hs4 hk4 hon hs12 HW4 HW3 hHeld e0 f0 e1 f1
      go_wp2_with fail
      go_ret
      rw [HRq.out]
      exact ⟨rfl, HEnd.out⟩
    · have hEb : (E == 0) = false := by simpa using hE
      have HRq : Hid (R = (E, S1)) := by unfold Hid; rw [HRm.out, if_neg hE]
      clear HRm
      go_wp2_with fail
      go_ret
      rw [HRq.out]
      exact ⟨rfl, ⟨⟨_, _, _, _, _, _, _, _, _, HR1.out.wider (fun _ q => .inl q) (Grw.lt HLt.out HO1.out.size)⟩, HO1.out⟩⟩
end Go.Proofs.Ytijablmejjepaaa
