/- The walk of BlockApart. -/
import Derived.Test.YtfgggfddehgigaaBK13
namespace Go.Proofs.Ytfgggfddehgigaa
open Go.RowKit

set_option maxRecDepth 100000 in
set_option maxHeartbeats 4000000 in
theorem apart_2n (vl : Value) (l : List Pr) (vm : Value) (m : List Pr) (vp : Value) (p : Ks) (vq : Value) (q : Ks) (w : World) (hPl : PReads w vl l) (hPm : PReads w vm m) (hp : Reads w vp p) (hq : Reads w vq q) (c1 : com p q < p.length) (c2 : ¬ com p q < q.length) (hlm : ¬ l = m) :
    Calls Try.prog 5 #[vl, vm, vp, vq] w fun e w' => e = .returned (.bool true) ∧ Below w.heap.size w w' := by
  have HEQ : Hid (¬ l = m) := hlm
  clear hlm
  have HPl : Hid (PReads w vl l) := hPl
  have HPm : Hid (PReads w vm m) := hPm
  have HPp : Hid (Reads w vp p) := hp
  have HQ : Hid (Reads w vq q) := hq
  obtain ⟨al, capl, rfl, _⟩ := hPl
  obtain ⟨am, capm, rfl, _⟩ := hPm
  obtain ⟨ap, cp, rfl, hmp⟩ := hp.form
  obtain ⟨aq, cq, rfl, hmq⟩ := hq.form
  unfold maxLen at hmp hmq
  clear hp hq
  go_enter Try.func5, Try.ntmps5
  go_wp2_with fail
  refine (great_any _ l _ HPl.out).mono ?_
  rintro e w1 ⟨g, rfl, _, hb1⟩
  have HB1 : Hid (Below w.heap.size w w1) := hb1
  clear hb1
  cases g
  · go_wp2_with fail
    refine (great_any _ m _ (HPm.out.below HB1.out)).mono ?_
    rintro e w2 ⟨g, rfl, _, hb2⟩
    have HB2 : Hid (Below w.heap.size w w2) := HB1.out.trans (hb2.mono HB1.out.size)
    clear hb2 HB1
    cases g
    · by_cases g1 : (1000 : Int) < (p.length : Int)
      · go_wp2_with fail
        refine (alive_any _).mono ?_
        rintro e w9 ⟨rfl, hb9⟩
        have HB9 : Hid (Below w.heap.size w w9) := HB2.out.trans (hb9.mono HB2.out.size)
        clear hb9
        go_wp2_with fail
        go_ret
        exact ⟨rfl, HB9.out⟩
      by_cases g2 : (1000 : Int) < (q.length : Int)
      · go_wp2_with fail
        refine (alive_any _).mono ?_
        rintro e w9 ⟨rfl, hb9⟩
        have HB9 : Hid (Below w.heap.size w w9) := HB2.out.trans (hb9.mono HB2.out.size)
        clear hb9
        go_wp2_with fail
        go_ret
        exact ⟨rfl, HB9.out⟩
      go_wp2_with fail
      refine (common_any _ _ p q _ (HPp.out.below HB2.out) (HQ.out.below HB2.out)).mono ?_
      rintro e w3 ⟨rfl, hb3⟩
      have HB3 : Hid (Below w.heap.size w w3) := HB2.out.trans (hb3.mono HB2.out.size)
      clear hb3 HB2
      obtain ⟨n, HN⟩ := hid_ex (com p q)
      have hn1 : n ≤ p.length := by rw [HN.out]; exact (com_le p q).1
      have hn2 : n ≤ q.length := by rw [HN.out]; exact (com_le p q).2
      have HTK : Hid (p.take n = q.take n) := by rw [HN.out]; exact com_take p q
      have HNE : Hid (∀ (h1 : n < p.length) (h2 : n < q.length), p[n] ≠ q[n]) := by rw [HN.out]; exact com_ne p q
      rw [← HN.out]
      obtain ⟨a1, f1, hs1, hr1⟩ := sl_upto HPp.out hn1
      obtain ⟨a2, f2, hs2, hr2⟩ := sl_upto HQ.out hn2
      rw [← HTK.out] at hr2
      obtain ⟨T, HT⟩ := hid_ex (p.take n)
      rw [← HT.out] at hr1 hr2
      have hq1 : ∀ k, (convert 23 9 (.slice a1 n f1)).run Try.prog (w3.drewN k) = .ok (.string ⟨T.toArray⟩) (w3.drewN k) := fun k => reads_text (hr1.below (below_drewN HB3.out k))
      have hq2 : ∀ k, (convert 23 9 (.slice a2 n f2)).run Try.prog (w3.drewN k) = .ok (.string ⟨T.toArray⟩) (w3.drewN k) := fun k => reads_text (hr2.below (below_drewN HB3.out k))
      clear hr1 hr2
      have hi1 : ¬ p.length < n := by omega
      have hi2 : ¬ q.length < n := by omega
      have k1 : n < p.length := by rw [HN.out]; exact c1
      have k2 : ¬ n < q.length := by rw [HN.out]; exact c2
      clear c1 c2
      have hj1 : (n : Int) < (p.length : Int) := by omega
      have hj2 : ¬ (n : Int) < (q.length : Int) := by omega
      go_wp2_with fail
      go_big_quiet (exact (common_q _ _ q p _ (HQ.out.below (below_drewN HB3.out _)) (HPp.out.below (below_drewN HB3.out _))).mono (fun e w' h => ⟨by rw [h.1, ← com_comm p q, ← HN.out], by obtain ⟨m, hm⟩ := h.2; exact ⟨_, hm.trans (World.drewN_drewN _ _ _)⟩⟩))
      have HB4 : Hid (Below w.heap.size w (w3.drewN nq)) := below_drewN HB3.out nq
      (try clear hq1 hq2 hs1 hs2)
      go_wp2_with fail
      refine (write_any _ l _ (HPl.out.below HB4.out)).mono ?_
      rintro e w5 ⟨x5, rfl, ho5, hb5⟩
      have HB5 : Hid (Below w.heap.size w w5) := HB4.out.trans (hb5.mono HB4.out.size)
      have HX5 : Hid (Reads w5 x5 (wrB l)) := ho5.reads
      clear hb5 ho5 HB4
      go_wp2_with fail
      refine (write_any _ m _ (HPm.out.below HB5.out)).mono ?_
      rintro e w6 ⟨y6, rfl, ho6, hb6⟩
      have HB6 : Hid (Below w.heap.size w w6) := HB5.out.trans (hb6.mono HB5.out.size)
      have HX6 : Hid (Reads w6 x5 (wrB l)) := HX5.out.below hb6
      have HY6 : Hid (Reads w6 y6 (wrB m)) := ho6.reads
      clear hb6 ho6 HB5 HX5
      obtain ⟨ax, cx, rfl, _⟩ := HX6.out.form
      obtain ⟨ay, cy, rfl, _⟩ := HY6.out.form
      by_cases e1 : mbF l = 0
      · by_cases e2 : mbF m = 0
        · have hml : m.length ≤ 100000 := by have := (mb_zero.1 e2).1; omega
          obtain ⟨X, HX⟩ := hid_ex (wrB l)
          obtain ⟨Y, HY⟩ := hid_ex (wrB m)
          have HLM : Hid ((X = Y) ↔ (l = m)) := by
            have h1 : X = wb l := by rw [HX.out]; unfold wrB; rw [if_pos e1]
            have h2 : Y = wb m := by rw [HY.out]; unfold wrB; rw [if_pos e2]
            rw [h1, h2]
            exact ⟨wb_inj e1 e2, fun h => by rw [h]⟩
          rw [← HX.out] at HX6
          rw [← HY.out] at HY6
          rw [← HX.out, ← HY.out, e1, e2]
          clear e1 e2 HX HY
          go_wp2_with fail
          have hbe : (X == Y) = false := by simp; exact fun h => HEQ.out (HLM.out.1 h)
          refine wp_region_noPanic ?_
          refine wp_region_held_drew (S := (fun w' => Below w6.heap.size w6 w')) (by kernel_rfl) ?_ (fun hHeld => ?_)
          · exact (Below.refl _ _).drew
          refine wpAnyH_ready (rs := [0]) (by kernel_rfl) (by simp) ?_
          refine AllReadyH.cons (o := _) rfl (fun K hK => ?_) AllReadyH.nil
          go_simp
          refine (alive_any _).mono ?_
          rintro e w7 ⟨rfl, hb7⟩
          have HB7 : Hid (Below w6.heap.size w6 w7) := (Below.refl w6.heap.size w6).drew.trans hb7
          clear hb7
          refine hK.out _ _ ?_ (fun hHeld => ?_)
          · exact HB7.out
          clear hK K
          refine wpAnyH_take (i := 1) (v := .bool true) rfl (by kernel_rfl) (by kernel_rfl) (by kernel_rfl) (fun _ _ _ h => h) (Or.inl ⟨by rfl, ?_⟩) (by assumption) ?_
          · (intro w1 hSw; (try dsimp only at hSw); go_simp)
          simp only [List.getElem_toArray, List.getElem_cons_succ, List.getElem_cons_zero, Act.put, List.setIfInBounds_toArray, List.set_cons_zero, List.set_cons_succ]
          refine wpAnyH_take (i := 2) (v := .slice ax X.length cx) rfl (by kernel_rfl) (by kernel_rfl) (by kernel_rfl) (fun _ _ _ h => h) (Or.inl ⟨by rfl, ?_⟩) (by assumption) ?_
          · (intro w1 hSw; (try dsimp only at hSw); go_simp)
          simp only [List.getElem_toArray, List.getElem_cons_succ, List.getElem_cons_zero, Act.put, List.setIfInBounds_toArray, List.set_cons_zero, List.set_cons_succ]
          refine wpAnyH_take (i := 3) (v := .string ⟨X.toArray⟩) rfl (by kernel_rfl) (by kernel_rfl) (by kernel_rfl) (fun _ _ _ h => h) (Or.inl ⟨by rfl, ?_⟩) (by assumption) ?_
          · (intro w1 hSw; (try dsimp only at hSw); have hcv := reads_text (HX6.out.below hSw); go_simp)
          simp only [List.getElem_toArray, List.getElem_cons_succ, List.getElem_cons_zero, Act.put, List.setIfInBounds_toArray, List.set_cons_zero, List.set_cons_succ]
          refine wpAnyH_take (i := 4) (v := .slice ay Y.length cy) rfl (by kernel_rfl) (by kernel_rfl) (by kernel_rfl) (fun _ _ _ h => h) (Or.inl ⟨by rfl, ?_⟩) (by assumption) ?_
          · (intro w1 hSw; (try dsimp only at hSw); go_simp)
          simp only [List.getElem_toArray, List.getElem_cons_succ, List.getElem_cons_zero, Act.put, List.setIfInBounds_toArray, List.set_cons_zero, List.set_cons_succ]
          refine wpAnyH_take (i := 5) (v := .string ⟨Y.toArray⟩) rfl (by kernel_rfl) (by kernel_rfl) (by kernel_rfl) (fun _ _ _ h => h) (Or.inl ⟨by rfl, ?_⟩) (by assumption) ?_
          · (intro w1 hSw; (try dsimp only at hSw); have hcv := reads_text (HY6.out.below hSw); go_simp)
          simp only [List.getElem_toArray, List.getElem_cons_succ, List.getElem_cons_zero, Act.put, List.setIfInBounds_toArray, List.set_cons_zero, List.set_cons_succ]
          refine wpAnyH_take (i := 6) (v := .bool false) rfl (by kernel_rfl) (by kernel_rfl) (by kernel_rfl) (fun _ _ _ h => h) (Or.inl ⟨by rfl, ?_⟩) (by assumption) ?_
          · (intro w1 hSw; (try dsimp only at hSw); go_simp)
          simp only [List.getElem_toArray, List.getElem_cons_succ, List.getElem_cons_zero, Act.put, List.setIfInBounds_toArray, List.set_cons_zero, List.set_cons_succ]
          refine wpAnyH_take (i := 7) (v := .slice al l.length capl) rfl (by kernel_rfl) (by kernel_rfl) (by kernel_rfl) (fun _ _ _ h => h) (Or.inl ⟨by rfl, ?_⟩) (by assumption) ?_
          · (intro w1 hSw; (try dsimp only at hSw); go_simp)
          simp only [List.getElem_toArray, List.getElem_cons_succ, List.getElem_cons_zero, Act.put, List.setIfInBounds_toArray, List.set_cons_zero, List.set_cons_succ]
          refine wpAnyH_take (i := 8) (v := .slice am m.length capm) rfl (by kernel_rfl) (by kernel_rfl) (by kernel_rfl) (fun _ _ _ h => h) (Or.inl ⟨by rfl, ?_⟩) (by assumption) ?_
          · (intro w1 hSw; (try dsimp only at hSw); go_simp)
          simp only [List.getElem_toArray, List.getElem_cons_succ, List.getElem_cons_zero, Act.put, List.setIfInBounds_toArray, List.set_cons_zero, List.set_cons_succ]
          refine wpAnyH_ready (rs := [9]) (by kernel_rfl) (by simp) ?_
          refine AllReadyH.cons (o := _) rfl (fun K hK => ?_) AllReadyH.nil
          go_simp
          refine (as_any _ m hml _ (HPm.out.below (HB6.out.trans (HB7.out.mono HB6.out.size)))).mono ?_
          rintro e w8 ⟨u8, rfl, hp8, hb8⟩
          have HB8 : Hid (Below w6.heap.size w6 w8) := HB7.out.trans (hb8.mono HB7.out.size)
          have HP8 : Hid (PReads w8 u8 m) := hp8
          clear hb8 hp8
          refine hK.out _ _ ?_ (fun hHeld => ?_)
          · exact HB8.out
          clear hK K
          refine wpAnyH_ready (rs := [10]) (by kernel_rfl) (by simp) ?_
          refine AllReadyH.cons (o := _) rfl (fun K hK => ?_) AllReadyH.nil
          go_simp
          refine (same_any _ _ l m _ (HPl.out.below (HB6.out.trans (HB8.out.mono HB6.out.size))) HP8.out).mono ?_
          rintro e w9 ⟨rfl, hb9⟩
          have HB9 : Hid (Below w6.heap.size w6 w9) := HB8.out.trans (hb9.mono HB8.out.size)
          clear hb9
          rw [decide_eq_false HEQ.out]
          refine hK.out _ _ ?_ (fun hHeld => ?_)
          · exact HB9.out
          clear hK K
          refine wpAnyH_take (i := 11) (v := .bool true) rfl (by kernel_rfl) (by kernel_rfl) (by kernel_rfl) (fun _ _ _ h => h) (Or.inl ⟨by rfl, ?_⟩) (by assumption) ?_
          · (intro w1 hSw; (try dsimp only at hSw); go_simp)
          simp only [List.getElem_toArray, List.getElem_cons_succ, List.getElem_cons_zero, Act.put, List.setIfInBounds_toArray, List.set_cons_zero, List.set_cons_succ]
          refine wpAnyH_take (i := 12) (v := .bool true) rfl (by kernel_rfl) (by kernel_rfl) (by kernel_rfl) (fun _ _ _ h => h) (Or.inl ⟨by rfl, ?_⟩) (by assumption) ?_
          · (intro w1 hSw; (try dsimp only at hSw); go_simp)
          simp only [List.getElem_toArray, List.getElem_cons_succ, List.getElem_cons_zero, Act.put, List.setIfInBounds_toArray, List.set_cons_zero, List.set_cons_succ]
          refine wpAnyH_ready (rs := [13]) (by kernel_rfl) (by simp) ?_
          refine AllReadyH.cons (o := _) rfl (fun K hK => ?_) AllReadyH.nil
          go_simp
          refine hK.out _ _ ?_ (fun hHeld => ?_)
          · exact HB9.out
          clear hK K
          clear hHeld
          refine wpAnyH_done (by kernel_rfl) ?_ _
          refine NoPanic.normal ?_
          go_wp2_with fail
          go_ret
          exact ⟨rfl, HB6.out.trans (HB9.out.mono HB6.out.size)⟩
        · rw [e1]
          go_wp2_with fail
          refine (alive_any _).mono ?_
          rintro e w9 ⟨rfl, hb9⟩
          have HB9 : Hid (Below w.heap.size w w9) := HB6.out.trans (hb9.mono HB6.out.size)
          clear hb9
          go_wp2_with fail
          go_ret
          exact ⟨rfl, HB9.out⟩
      · go_wp2_with fail
        refine (alive_any _).mono ?_
        rintro e w9 ⟨rfl, hb9⟩
        have HB9 : Hid (Below w.heap.size w w9) := HB6.out.trans (hb9.mono HB6.out.size)
        clear hb9
        go_wp2_with fail
        go_ret
        exact ⟨rfl, HB9.out⟩
    · go_wp2_with fail
      refine (alive_any _).mono ?_
      rintro e w9 ⟨rfl, hb9⟩
      have HB9 : Hid (Below w.heap.size w w9) := HB2.out.trans (hb9.mono HB2.out.size)
      clear hb9
      go_wp2_with fail
      go_ret
      exact ⟨rfl, HB9.out⟩
  · go_wp2_with fail
    refine (alive_any _).mono ?_
    rintro e w9 ⟨rfl, hb9⟩
    have HB9 : Hid (Below w.heap.size w w9) := HB1.out.trans (hb9.mono HB1.out.size)
    clear hb9
    go_wp2_with fail
    go_ret
    exact ⟨rfl, HB9.out⟩
end Go.Proofs.Ytfgggfddehgigaa
