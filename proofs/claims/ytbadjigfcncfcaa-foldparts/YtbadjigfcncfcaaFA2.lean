/- The walk of FoldLater. -/
import Derived.Test.YtbadjigfcncfcaaJ7
namespace Go.Proofs.Ytbadjigfcncfcaa
open Go.RowKit

/-- What Fold tells, in one word. -/
noncomputable def foR (R : Rl) (wm : Int) (L : List En) : List En := if chkF R wm L = 0 then foldF R wm L else []
theorem foR_ok {R : Rl} {wm : Int} {L : List En} (h : chkF R wm L = 0) : foR R wm L = foldF R wm L := by unfold foR; rw [if_pos h]
theorem foR_no {R : Rl} {wm : Int} {L : List En} (h : chkF R wm L ≠ 0) : foR R wm L = [] := by unfold foR; rw [if_neg h]
theorem fold_uni (R : Rl) (wm : Int) (v : Value) (L : List En) (w : World) (hL : Lies R w.heap.size w) (hE : EReads w v L) (hl : L.length ≤ 100000) (hk : ∀ x ∈ L, x.1.length ≤ 1000) :
    Calls Try.prog 15 #[.agg #[.slice R.a R.len R.cap, .int .i64 R.kp], .int .i64 wm, v] w fun e w' => ∃ a cap, e = .returned (.tuple #[.slice a (foR R wm L).length cap, .int .i64 (chkF R wm L)]) ∧ EReads w' (.slice a (foR R wm L).length cap) (foR R wm L) ∧ Below w.heap.size w w' := by
  refine (fold_any R wm v L w hL hE hl hk).mono ?_
  rintro e w2 ⟨hb2, ⟨hne, rfl⟩ | ⟨hz, l, rfl, hr⟩⟩
  · rw [foR_no hne]
    exact ⟨none, 0, rfl, eReads_none _, hb2⟩
  · rw [foR_ok hz, hz]
    obtain ⟨a, cap, rfl, _⟩ := hr.form
    exact ⟨a, cap, rfl, hr, hb2⟩
set_option maxRecDepth 100000 in
set_option maxHeartbeats 4000000 in
theorem later_walk (R : Rl) (wm lt : Int) (v : Value) (L : List En) (w : World) (hL : Lies R w.heap.size w) (hE : EReads w v L) :
    Calls Try.prog 5 #[.agg #[.slice R.a R.len R.cap, .int .i64 R.kp], .int .i64 wm, .int .i64 lt, v] w fun e w' => e = .returned (.bool true) ∧ Below w.heap.size w w' := by
  have HE : Hid (EReads w v L) := hE
  have HL : Hid (Lies R w.heap.size w) := hL
  have HCN : Hid _ := hE.ok
  obtain ⟨a, cap, rfl, hm1, hm2⟩ := hE.form
  unfold maxLen at hm2
  clear hE hL
  obtain ⟨w1, HW1⟩ := hid_ex (w.alloc (.cells #[.slice R.a R.len R.cap, .int .i64 R.kp] 33))
  have HB1 : Hid (Below w.heap.size w w1) := by rw [HW1.out]; exact new_below _ _
  have HX1 : Hid (RBox R w.heap.size w1) := by rw [HW1.out]; exact RBox.new R w _
  have HLI : Hid (∀ W, Below w1.heap.size w1 W → Lies R W.heap.size W ∧ RBox R w.heap.size W ∧ Below w.heap.size w W ∧ EReads W (.slice a L.length cap) L) := fun W hW => by
    have hb := HB1.out.trans (hW.mono HB1.out.size)
    exact ⟨HL.out.at hb, HX1.out.below hW, hb, HE.out.below hb⟩
  go_enter Try.func5, Try.ntmps5
  go_wp2_with fail
  rw [← HW1.out]
  clear HW1
  refine (great15_any _ L _ (HLI.out _ (Below.refl _ _)).2.2.2).mono ?_
  rintro e w2 ⟨gg, rfl, hgg, hw2⟩
  rw [hw2]
  clear hw2 w2
  by_cases hge : gg = true ∨ lt < wm
  · have HGO : Hid (gg = true ∨ (gg = false ∧ lt < wm)) := by
      rcases hge with h | h
      · exact .inl h
      · cases gg
        · exact .inr ⟨rfl, h⟩
        · exact .inl rfl
    clear hge hgg
    rcases HGO.out with rfl | ⟨rfl, h3⟩
    all_goals
      go_wp2_with fail
      refine (alive15_any _).mono ?_
      rintro e w2 ⟨rfl, hb2⟩
      have HB2 : Hid (Below w.heap.size w w2) := HB1.out.trans (hb2.mono HB1.out.size)
      clear hb2
      go_wp2_with fail
      go_ret
      exact ⟨rfl, HB2.out⟩
  · have hgf : gg = false := by cases gg; rfl; simp at hge
    have hwl : wm ≤ lt := by omega
    have hnl : ¬ lt < wm := by omega
    have HG : Hid (okRow15 L) := hgg hgf
    have hl : L.length ≤ 100000 := by have := HG.out.1; omega
    have HK : Hid (∀ x ∈ L, x.1.length ≤ 1000) := fun x hx => by have := HG.out.2 x hx; omega
    clear hgg hge
    subst hgf
    obtain ⟨r0, r1⟩ := HX1.out.at
    go_wp2_with fail
    refine (fold_uni R wm _ L _ (HLI.out _ (Below.refl _ _)).1 (HLI.out _ (Below.refl _ _)).2.2.2 hl HK.out).mono ?_
    rintro e w2 ⟨xa, xc, rfl, hr2, hb2⟩
    have HB2 : Hid (Below w1.heap.size w1 w2) := hb2
    obtain ⟨A, HA⟩ := hid_ex (foR R wm L)
    obtain ⟨e1, He1⟩ := hid_ex (chkF R wm L)
    rw [← HA.out] at hr2 ⊢
    rw [← He1.out]
    obtain ⟨an, Han⟩ := hid_ex A.length
    rw [← Han.out] at hr2 ⊢
    have HR2 : Hid (EReads w2 (.slice xa an xc) A) := hr2
    clear hb2 hr2 r0 r1
    obtain ⟨r0, r1⟩ := (HLI.out _ HB2.out).2.1.at
    go_wp2_with fail
    refine (fold_uni R lt _ L _ (HLI.out _ HB2.out).1 (HLI.out _ HB2.out).2.2.2 hl HK.out).mono ?_
    rintro e w3 ⟨ya, yc, rfl, hr3, hb3⟩
    have HB3 : Hid (Below w1.heap.size w1 w3) := HB2.out.trans (hb3.mono HB2.out.size)
    have HR3 : Hid (EReads w3 (.slice xa an xc) A) := HR2.out.below hb3
    obtain ⟨B, HB⟩ := hid_ex (foR R lt L)
    obtain ⟨e2, He2⟩ := hid_ex (chkF R lt L)
    rw [← HB.out] at hr3 ⊢
    rw [← He2.out]
    obtain ⟨bn, Hbn⟩ := hid_ex B.length
    rw [← Hbn.out] at hr3 ⊢
    have HRb3 : Hid (EReads w3 (.slice ya bn yc) B) := hr3
    clear hb3 hr3 r0 r1
    by_cases hz : e1 = 0 ∧ e2 = 0
    · obtain ⟨rfl, rfl⟩ := hz
      obtain ⟨hfe, hR, hwt, hsr, hft⟩ := chkF_ok He1.out.symm
      obtain ⟨hfe2, _⟩ := chkF_ok He2.out.symm
      have hgd := fit_gd hft HCN.out
      have HEA : Hid (A = foldF R wm L) := by unfold Hid; rw [HA.out, foR_ok He1.out.symm]
      have HEB : Hid (B = foldF R lt L) := by unfold Hid; rw [HB.out, foR_ok He2.out.symm]
      have hFA : FitL R A := by rw [HEA.out]; exact foldF_fit hR hgd hft
      have HZA : Hid (chkF R lt A = 0) := chkF_of hfe2 (by rw [HEA.out]; exact foldF_srt _ _ _) hFA
      have HAB : Hid (B = foldF R lt A) := by unfold Hid; rw [HEB.out, HEA.out, foldF_later hR hwl hgd hft]
      have HKA : Hid (∀ x ∈ A, x.1.length ≤ 1000) := fun x hx => fit_short (hFA x hx).k
      have hla : A.length ≤ 100000 := by rw [HEA.out]; exact Nat.le_trans (foldF_len _ _ _) hl
      have hlb : bn ≤ L.length := by rw [Hbn.out, HEB.out]; exact foldF_len _ _ _
      clear hfe hR hwt hsr hft hfe2 hgd hFA He1 He2 HA HB HEA HEB
      obtain ⟨r0, r1⟩ := (HLI.out _ HB3.out).2.1.at
      go_wp2_with fail
      refine (fold_ok R lt _ A _ (HLI.out _ HB3.out).1 HR3.out hla HKA.out HZA.out B HAB.out).mono ?_
      rintro e w4 ⟨za, zc, rfl, hr4, hb4⟩
      rw [← Hbn.out] at hr4 ⊢
      have HB4 : Hid (Below w1.heap.size w1 w4) := HB3.out.trans (hb4.mono HB3.out.size)
      have HRb4 : Hid (EReads w4 (.slice ya bn yc) B) := HRb3.out.below hb4
      have HRc4 : Hid (EReads w4 (.slice za bn zc) B) := hr4
      clear hr4 hb4 r0 r1
      go_wp2_with fail
      refine (alive15_any _).mono ?_
      rintro e w5 ⟨rfl, hb5⟩
      have HB5 : Hid (Below w1.heap.size w1 w5) := HB4.out.trans (hb5.mono HB4.out.size)
      have HRb5 : Hid (EReads w5 (.slice ya bn yc) B) := HRb4.out.below hb5
      have HRc5 : Hid (EReads w5 (.slice za bn zc) B) := HRc4.out.below hb5
      clear hb5
      go_wp2_with fail
      refine (same_true _ _ B _ HRb5.out.rd HRc5.out.rd).mono ?_
      rintro e w6 ⟨rfl, hb6⟩
      have HB6 : Hid (Below w.heap.size w w6) := (HLI.out _ (HB5.out.trans (hb6.mono HB5.out.size))).2.2.1
      clear hb6
      go_wp2_with fail
      go_ret
      exact ⟨rfl, HB6.out⟩
    · have HZ : Hid ((e1 == 0) = false ∨ (e1 = 0 ∧ (e2 == 0) = false)) := by
        by_cases h1 : e1 = 0
        · exact .inr ⟨h1, by simp; exact fun h2 => hz ⟨h1, h2⟩⟩
        · exact .inl (by simp [h1])
      clear hz He1 He2
      rcases HZ.out with h1 | ⟨rfl, h2⟩
      all_goals
        go_wp2_with fail
        refine (alive15_any _).mono ?_
        rintro e w4 ⟨rfl, hb4⟩
        have HB4 : Hid (Below w.heap.size w w4) := (HLI.out _ (HB3.out.trans (hb4.mono HB3.out.size))).2.2.1
        clear hb4
        go_wp2_with fail
        go_ret
        exact ⟨rfl, HB4.out⟩
end Go.Proofs.Ytbadjigfcncfcaa
