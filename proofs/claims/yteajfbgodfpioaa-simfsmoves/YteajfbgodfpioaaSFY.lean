/- SimfsLasts. -/
import Derived.Test.YteajfbgodfpioaaSFX
namespace Go.Proofs.Yteajfbgodfpioaa
open Go.RowKit Go.Maps Go.Sort

theorem cuts_some : ∀ (dir : List (List UInt8 × Nat)) (ks : List Int) (fls : List (List UInt8 × Nat)) (i : Nat), sfFlOk fls → i < fls.length → (∃ p ∈ dir, p.2 = i) → ∃ k, (sfCuts dir ks fls).getD i ([], 0) = sfCut (fls.getD i ([], 0)) k
  | [], _, _, _, _, _, h => by obtain ⟨p, hp, _⟩ := h; simp at hp
  | q :: r, ks, fls, i, hok, hi, h => by
    rw [sfCuts]
    by_cases e : q.2 = i
    · subst e
      refine ⟨ks.headD 0, ?_⟩
      have e1 : (fls.set q.2 (sfCut (fls.getD q.2 ([], 0)) (ks.headD 0))).getD q.2 ([], 0) = sfCut (fls.getD q.2 ([], 0)) (ks.headD 0) := by rw [getD_set, if_pos ⟨rfl, hi⟩]
      rw [cuts_keep r _ _ _ (by rw [e1]; exact cut_full (flOk_getD hok _) _), e1]
    · obtain ⟨p, hp, hpi⟩ := h
      have hpr : p ∈ r := by
        rcases List.mem_cons.1 hp with rfl | hp
        · exact absurd hpi e
        · exact hp
      obtain ⟨k, hk⟩ := cuts_some r ks.tail (fls.set q.2 (sfCut (fls.getD q.2 ([], 0)) (ks.headD 0))) i (hok.cut _ _) (by rw [List.length_set]; exact hi) ⟨p, hpr, hpi⟩
      refine ⟨k, ?_⟩
      rw [hk, getD_set, if_neg (fun z => e z.1)]
/-- What Append may do to a file. -/
theorem append_fl {s : SfS} {n : List UInt8} {i : Nat} (hf : s.fault = 0) (hw : SfWf s) (hl : sfLook n s.dir = some i) (b : List UInt8) : ∃ t, (sfAppend s n b).2.dir = s.dir ∧ (sfAppend s n b).2.old = s.old ∧ (sfAppend s n b).2.pend = s.pend ∧ (sfAppend s n b).2.fl i = ((s.fl i).1 ++ t, (s.fl i).2) ∧ (sfAppend s n b).2.fls.length = s.fls.length := by
  have hi := (hw.di _ (look_mem hl)).1
  unfold sfAppend
  rw [hl]
  simp only []
  split
  · exact ⟨[], rfl, rfl, rfl, by simp, rfl⟩
  · split
    · exact ⟨[], rfl, rfl, rfl, by simp, rfl⟩
    · rw [plan_none hf, if_pos rfl]
      refine ⟨b, rfl, rfl, rfl, ?_, by simp [SfS.setF]⟩
      rw [fl_setF _ _ _ hi, if_pos rfl]
theorem lasts_pure {s : SfS} {n : List UInt8} {i : Nat} (hw : SfWf s) (hf : s.fault = 0) (hl : sfLook n s.dir = some i) (more : List UInt8) (m : Int) (ks : List Int) :
    ∃ S2, sfSync s n = (0, s.setF i ((s.fl i).1, (s.fl i).1.length)) ∧ sfSyncDir (s.setF i ((s.fl i).1, (s.fl i).1.length)) = (0, S2) ∧ S2.fault = 0 ∧ sfLook n S2.dir = some i ∧ sfRead S2 n = (s.fl i).1 ∧
      sfLook n (sfAppend S2 n more).2.dir = some i ∧ ∃ N, (s.fl i).1.length ≤ N ∧ N ≤ (sfRead (sfAppend S2 n more).2 n).length ∧ sfLook n (sfCrash (sfAppend S2 n more).2 m ks).dir = some i ∧ sfRead (sfCrash (sfAppend S2 n more).2 m ks) n = (sfRead (sfAppend S2 n more).2 n).take N := by
  have hi := (hw.di _ (look_mem hl)).1
  have hw1 : SfWf (s.setF i ((s.fl i).1, (s.fl i).1.length)) := hw.setF ⟨Nat.le_refl _, (hw.fl32 i).1⟩
  have hsd := syncDir_some (s := s.setF i ((s.fl i).1, (s.fl i).1.length)) hf hw1
  have hw2 := hw1.syncDir
  rw [hsd] at hw2
  obtain ⟨S2, hS2⟩ : ∃ S2, S2 = ({ s.setF i ((s.fl i).1, (s.fl i).1.length) with old := (s.setF i ((s.fl i).1, (s.fl i).1.length)).dir, pend := [] } : SfS) := ⟨_, rfl⟩
  have hf2 : S2.fault = 0 := by rw [hS2]; exact hf
  have hl2 : sfLook n S2.dir = some i := by rw [hS2]; exact hl
  have hfl2 : S2.fl i = ((s.fl i).1, (s.fl i).1.length) := by
    have : S2.fl i = (s.setF i ((s.fl i).1, (s.fl i).1.length)).fl i := by rw [hS2]; rfl
    rw [this, fl_setF _ _ _ hi, if_pos rfl]
  have ho2 : S2.old = S2.dir := by rw [hS2]
  have hp2 : S2.pend = [] := by rw [hS2]
  have hw2' : SfWf S2 := by rw [hS2]; exact hw2
  obtain ⟨t, a1, a2, a3, a4, a5⟩ := append_fl hf2 hw2' hl2 more
  have hw3 := hw2'.append n more
  have hl3 : sfLook n (sfAppend S2 n more).2.dir = some i := by rw [a1]; exact hl2
  have hr3 : sfRead (sfAppend S2 n more).2 n = (s.fl i).1 ++ t := by unfold sfRead; rw [hl3]; show ((sfAppend S2 n more).2.fl i).1 = _; rw [a4, hfl2]
  have hcd : ∀ m ks, (sfCrash (sfAppend S2 n more).2 m ks).dir = S2.dir := fun m ks => by
    show ((sfAppend S2 n more).2.pend.take _).foldl sfDo (sfAppend S2 n more).2.old = _
    rw [a3, hp2, List.take_nil, List.foldl_nil, a2, ho2]
  have hcf : (sfCrash (sfAppend S2 n more).2 m ks).fls = sfCuts S2.dir ks (sfAppend S2 n more).2.fls := by
    show sfCuts (((sfAppend S2 n more).2.pend.take _).foldl sfDo (sfAppend S2 n more).2.old) ks (sfAppend S2 n more).2.fls = _
    rw [a3, hp2, List.take_nil, List.foldl_nil, a2, ho2]
  have hi3 : i < (sfAppend S2 n more).2.fls.length := (hw3.di _ (look_mem hl3)).1
  obtain ⟨k, hk⟩ := cuts_some S2.dir ks (sfAppend S2 n more).2.fls i hw3.sy hi3 ⟨_, look_mem hl2, rfl⟩
  have hl4 : sfLook n (sfCrash (sfAppend S2 n more).2 m ks).dir = some i := by rw [hcd]; exact hl2
  have e3 : (sfAppend S2 n more).2.fls.getD i ([], 0) = ((s.fl i).1 ++ t, (s.fl i).1.length) := by
    have : (sfAppend S2 n more).2.fls.getD i ([], 0) = (sfAppend S2 n more).2.fl i := rfl
    rw [this, a4, hfl2]
  refine ⟨S2, sync_some hf hl, by rw [hsd, hS2], hf2, hl2, by unfold sfRead; rw [hl2]; show (S2.fl i).1 = _; rw [hfl2], hl3, (sfCut ((s.fl i).1 ++ t, (s.fl i).1.length) k).2, ?_, ?_, hl4, ?_⟩
  · unfold sfCut; simp only []; omega
  · rw [hr3]; unfold sfCut; simp only [List.length_append]; omega
  · unfold sfRead
    rw [hl4, hl3]
    show ((sfCrash (sfAppend S2 n more).2 m ks).fls.getD i ([], 0)).1 = ((sfAppend S2 n more).2.fl i).1.take _
    rw [hcf, hk, e3, a4, hfl2]
    rfl
theorem own_keepX {w w' : World} {base : Nat} {v : Value} {l : List UInt8} {X : Nat → Prop} (h : Own w base v l) (hX : ∀ k, v.ownBlock = some k → X k) (hk : ∀ k, X k → w'.heap[k]? = w.heap[k]?) : Own w' base v l := by
  obtain ⟨h1, h2⟩ := h
  refine ⟨h1, ?_⟩
  rcases h2 with h2 | ⟨g, cap, cur, hv, hg, hw, r⟩
  · exact .inl h2
  · exact .inr ⟨g, cap, cur, hv, hg, (hk g (hX g (by rw [hv]; rfl))).trans hw, r⟩
set_option maxRecDepth 100000 in
set_option maxHeartbeats 8000000 in
theorem lasts_walk (r : Int) (ov : Value) (L : List SfO) (nm : ByteArray) (mv : Value) (more : List UInt8) (n : Int) (kv : Value) (ks : List Int) (W : World) (hr1 : -9223372036854775808 ≤ r) (hr2 : r < 9223372036854775808) (hL : OsR W ov L) (hnm : nm.size ≤ maxLen) (hM : Reads W mv more) (hK : KReads W kv ks) :
    Calls Try.prog 6 #[.int .i64 r, ov, .string nm, mv, .int .i64 n, kv] W fun e w' => e = .returned (.bool true) ∧ Below W.heap.size W w' := by
  obtain ⟨nl, HNL⟩ := hid_ex nm.data.toList
  obtain rfl : nm = ⟨nl.toArray⟩ := by rw [HNL.out]
  have hnl : nl.length ≤ maxLen := by simpa [ByteArray.size] using hnm
  clear HNL hnm
  obtain ⟨ka, kc, rfl, hkl⟩ := hK.form
  obtain ⟨ma, mc, rfl, hml⟩ := hM.form
  have HL : Hid (OsR W ov L) := hL
  have HK : Hid (KReads W (.slice ka ks.length kc) ks) := hK
  have HM : Hid (Reads W (.slice ma more.length mc) more) := hM
  clear hL hK hM
  have hkl' : (ks.length : Int) ≤ 9223372036854775807 := by simp only [maxLen] at hkl; omega
  have hml' : (more.length : Int) ≤ 9223372036854775807 := by simp only [maxLen] at hml; omega
  go_enter Try.func6, Try.ntmps6
  go_wp2_with fail
  refine (played_any r hr1 hr2 ov L W HL.out).mono ?_
  rintro e w1 ⟨hb1, hc1⟩
  have HB1 : Hid (Below W.heap.size W w1) := hb1
  clear hb1
  rcases hc1 with ⟨hr, rfl⟩ | ⟨hr, g, rfl, hf1, hp1⟩
  · go_wp2_with fail
    refine (alive11_any w1).mono ?_
    rintro e w3 ⟨rfl, hb3⟩
    go_wp2_with fail
    go_ret
    exact ⟨rfl, HB1.out.trans (hb3.mono HB1.out.size)⟩
  · have HF1 : Hid (Fam w1 W.heap.size [(.pointer (some ⟨g, 0, none⟩), sfPlayed r L)]) := Fam.push (fam_nil (Nat.le_refl _)) HB1.out hf1
    have HWF : Hid (SfWf (sfPlayed r L)) := hf1.1
    have HFT : Hid ((sfPlayed r L).fault = 0) := played_fault r L
    obtain ⟨S, HS⟩ := hid_ex (sfPlayed r L)
    rw [← HS.out] at HF1 HWF HFT
    clear hf1 hp1
    by_cases h1 : 500 < more.length
    · have h1' : (500 : Int) < (more.length : Int) := by omega
      go_wp2_with fail
      refine (alive11_any w1).mono ?_
      rintro e w3 ⟨rfl, hb3⟩
      go_wp2_with fail
      go_ret
      exact ⟨rfl, HB1.out.trans (hb3.mono HB1.out.size)⟩
    · have h1' : ¬ (500 : Int) < (more.length : Int) := by omega
      by_cases h2 : 300 < ks.length
      · have h2' : (300 : Int) < (ks.length : Int) := by omega
        go_wp2_with fail
        refine (alive11_any w1).mono ?_
        rintro e w3 ⟨rfl, hb3⟩
        go_wp2_with fail
        go_ret
        exact ⟨rfl, HB1.out.trans (hb3.mono HB1.out.size)⟩
      · have h2' : ¬ (300 : Int) < (ks.length : Int) := by omega
        have HSY : Hid (Calls Try.prog 19 #[.pointer (some ⟨g, 0, none⟩), .string ⟨nl.toArray⟩] w1 fun e w' => e = .returned (.int .i64 (sfSync S nl).1) ∧ Fam w' W.heap.size [(.pointer (some ⟨g, 0, none⟩), (sfSync S nl).2)] ∧ Below W.heap.size w1 w') :=
          HF1.out.call 0 (by simp) (F := 19) (args := #[.pointer (some ⟨g, 0, none⟩), .string ⟨nl.toArray⟩]) (r := sfSync S nl) (fun O' hf _ => hf.sync nl hnl)
        cases hlk : sfLook nl S.dir with
        | none =>
          have e0 : sfSync S nl = (4, S) := by unfold sfSync; rw [hlk]
          rw [e0] at HSY
          clear hlk e0
          go_wp2_with fail
          refine HSY.out.mono ?_
          rintro e w2 ⟨rfl, -, hb2⟩
          have HB2 : Hid (Below W.heap.size W w2) := HB1.out.trans hb2
          clear hb2
          go_wp2_with fail
          refine (alive11_any w2).mono ?_
          rintro e w3 ⟨rfl, hb3⟩
          go_wp2_with fail
          go_ret
          exact ⟨rfl, HB2.out.trans (hb3.mono HB2.out.size)⟩
        | some i =>
          obtain ⟨S2, q1, q2, q3, q4, q5, q6, N, q7, q8, q9, q10⟩ := lasts_pure HWF.out HFT.out hlk more n ks
          obtain ⟨S1, HS1⟩ := hid_ex (S.setF i ((S.fl i).1, (S.fl i).1.length))
          rw [← HS1.out] at q1 q2
          rw [q1] at HSY
          obtain ⟨A, HA⟩ := hid_ex (S.fl i).1
          rw [← HA.out] at q5 q7
          obtain ⟨B, HBB⟩ := hid_ex (sfRead (sfAppend S2 nl more).2 nl)
          rw [← HBB.out] at q8 q10
          obtain ⟨S3, HS3⟩ := hid_ex (sfAppend S2 nl more).2
          have HQ : Hid (sfSyncDir S1 = (0, S2) ∧ sfFe (sfLook nl S2.dir) = 0 ∧ sfRead S2 nl = A ∧ sfFe (sfLook nl S3.dir) = 0 ∧ sfRead S3 nl = B ∧ sfFe (sfLook nl (sfCrash S3 n ks).dir) = 0 ∧ sfRead (sfCrash S3 n ks) nl = B.take N) :=
            ⟨q2, by rw [q4]; rfl, q5, by rw [HS3.out, q6]; rfl, by rw [HS3.out, ← HBB.out], by rw [HS3.out, q9]; rfl, by rw [HS3.out]; exact q10⟩
          clear q1 q2 q3 q4 q5 q6 q9 q10 hlk HA HBB HS1
          go_wp2_with fail
          refine HSY.out.mono ?_
          rintro e w2 ⟨rfl, hf2, hb2⟩
          have HF2 : Hid (Fam w2 W.heap.size [(.pointer (some ⟨g, 0, none⟩), S1)]) := hf2
          have HB2 : Hid (Below W.heap.size W w2) := HB1.out.trans hb2
          have HSD : Hid (Calls Try.prog 20 #[.pointer (some ⟨g, 0, none⟩)] w2 fun e w' => e = .returned (.int .i64 0) ∧ Fam w' W.heap.size [(.pointer (some ⟨g, 0, none⟩), S2)] ∧ Below W.heap.size w2 w') := by
            have := HF2.out.call 0 (by simp) (F := 20) (args := #[.pointer (some ⟨g, 0, none⟩)]) (r := sfSyncDir S1) (fun O' hf _ => hf.syncDir)
            rw [HQ.out.1] at this
            exact this
          clear hf2 hb2 HSY
          go_wp2_with fail
          refine HSD.out.mono ?_
          rintro e w3 ⟨rfl, hf3, hb3⟩
          have HX3 : Hid (FamX w3 W.heap.size [(.pointer (some ⟨g, 0, none⟩), S2)] (fun _ => False)) := hf3.x
          have HB3 : Hid (Below W.heap.size W w3) := HB2.out.trans hb3
          have HRD : Hid (∀ w, ∀ T : SfS, ∀ C : List UInt8, sfFe (sfLook nl T.dir) = 0 → sfRead T nl = C → (∃ O, Fs w O (.pointer (some ⟨g, 0, none⟩)) T) → Calls Try.prog 12 #[.pointer (some ⟨g, 0, none⟩), .string ⟨nl.toArray⟩] w fun e w' => ∃ a c, e = .returned (.tuple #[.slice a C.length c, .int .i64 0]) ∧ Own w' w.heap.size (.slice a C.length c) C ∧ Below w.heap.size w w') := by
            intro w T C h1 h2 h3
            obtain ⟨O, hf⟩ := h3
            refine (hf.read nl hnl).mono ?_
            rw [h1, h2]
            rintro e w' ⟨v, rfl, ho, hb⟩
            obtain ⟨a, c, hv, -⟩ := ho.form
            subst hv
            exact ⟨a, c, rfl, ho, hb⟩
          clear hf3 hb3 HSD
          go_wp2_with fail
          refine (HRD.out w3 S2 A HQ.out.2.1 HQ.out.2.2.1 (HX3.out.fs 0 (by simp))).mono ?_
          rintro e w4 ⟨aa, ac, rfl, ho4, hb4⟩
          have HX4 : Hid (FamX w4 W.heap.size [(.pointer (some ⟨g, 0, none⟩), S2)] (fun k => w3.heap.size ≤ k ∧ k < w4.heap.size)) := (HX3.out.below hb4).less (fun k q => .inr q)
          have HB4 : Hid (Below W.heap.size W w4) := HB3.out.trans (hb4.mono HB3.out.size)
          have HO4 : Hid (Own w4 w3.heap.size (.slice aa A.length ac) A ∧ ∀ k, (Value.slice aa A.length ac).ownBlock = some k → w3.heap.size ≤ k ∧ k < w4.heap.size) := ⟨ho4, fun k hk => World.ownsRow.lt ho4 k hk⟩
          have HAP : Hid (Calls Try.prog 21 #[.pointer (some ⟨g, 0, none⟩), .string ⟨nl.toArray⟩, .slice ma more.length mc] w4 fun e w' => (∃ x, e = .returned (.int .i64 x)) ∧ FamX w' W.heap.size [(.pointer (some ⟨g, 0, none⟩), S3)] (fun k => w3.heap.size ≤ k ∧ k < w4.heap.size) ∧ Below W.heap.size w4 w' ∧ ∀ k, (w3.heap.size ≤ k ∧ k < w4.heap.size) → w'.heap[k]? = w4.heap[k]?) := by
            have := HX4.out.call 0 (by simp) (F := 21) (args := #[.pointer (some ⟨g, 0, none⟩), .string ⟨nl.toArray⟩, .slice ma more.length mc]) (r := sfAppend S2 nl more) (fun O' hf hO _ => hf.append nl hnl _ more (fun w' q => HM.out.below (HB4.out.trans (q.below HB4.out.size hO))))
            refine this.mono ?_
            rintro e w' ⟨he, h1, h2, h3⟩
            refine ⟨⟨_, he⟩, ?_, h2, h3⟩
            rw [HS3.out]; exact h1
          clear ho4 hb4
          go_wp2_with fail
          refine HAP.out.mono ?_
          rintro e w5 ⟨⟨ae, rfl⟩, hx5, hb5, hk5⟩
          have HX5 : Hid (FamX w5 W.heap.size [(.pointer (some ⟨g, 0, none⟩), S3)] (fun k => w3.heap.size ≤ k ∧ k < w4.heap.size)) := hx5
          have HB5 : Hid (Below W.heap.size W w5) := HB4.out.trans hb5
          have HO5 : Hid (Own w5 w3.heap.size (.slice aa A.length ac) A) := own_keepX HO4.out.1 HO4.out.2 hk5
          clear hx5 hb5 hk5 HAP
          go_wp2_with fail
          refine (HRD.out w5 S3 B HQ.out.2.2.2.1 HQ.out.2.2.2.2.1 (HX5.out.fs 0 (by simp))).mono ?_
          rintro e w6 ⟨ba, bcp, rfl, ho6, hb6⟩
          have HX6 : Hid (FamX w6 W.heap.size [(.pointer (some ⟨g, 0, none⟩), S3)] (fun k => (w3.heap.size ≤ k ∧ k < w4.heap.size) ∨ (w5.heap.size ≤ k ∧ k < w6.heap.size))) := HX5.out.below hb6
          have HB6 : Hid (Below W.heap.size W w6) := HB5.out.trans (hb6.mono HB5.out.size)
          have HO6 : Hid (Own w6 w3.heap.size (.slice aa A.length ac) A) := HO5.out.below hb6
          have HP6 : Hid (Own w6 w5.heap.size (.slice ba B.length bcp) B ∧ ∀ k, (Value.slice ba B.length bcp).ownBlock = some k → w5.heap.size ≤ k ∧ k < w6.heap.size) := ⟨ho6, fun k hk => World.ownsRow.lt ho6 k hk⟩
          have HCR : Hid (Calls Try.prog 16 #[.pointer (some ⟨g, 0, none⟩), .int .i64 n, .slice ka ks.length kc] w6 fun e w' => e = .returned (.int .i64 0) ∧ FamX w' W.heap.size [(.pointer (some ⟨g, 0, none⟩), sfCrash S3 n ks)] (fun k => (w3.heap.size ≤ k ∧ k < w4.heap.size) ∨ (w5.heap.size ≤ k ∧ k < w6.heap.size)) ∧ Below W.heap.size w6 w' ∧ ∀ k, ((w3.heap.size ≤ k ∧ k < w4.heap.size) ∨ (w5.heap.size ≤ k ∧ k < w6.heap.size)) → w'.heap[k]? = w6.heap[k]?) :=
            HX6.out.call 0 (by simp) (F := 16) (args := #[.pointer (some ⟨g, 0, none⟩), .int .i64 n, .slice ka ks.length kc]) (r := (0, sfCrash S3 n ks)) (fun O' hf hO _ => hf.crash n _ ks (fun w' q => HK.out.below (HB6.out.trans (q.below HB6.out.size hO))))
          clear ho6 hb6
          go_wp2_with fail
          refine HCR.out.mono ?_
          rintro e w7 ⟨rfl, hx7, hb7, hk7⟩
          have HX7 : Hid (FamX w7 W.heap.size [(.pointer (some ⟨g, 0, none⟩), sfCrash S3 n ks)] (fun k => (w3.heap.size ≤ k ∧ k < w4.heap.size) ∨ (w5.heap.size ≤ k ∧ k < w6.heap.size))) := hx7
          have HB7 : Hid (Below W.heap.size W w7) := HB6.out.trans hb7
          have HO7 : Hid (Own w7 w3.heap.size (.slice aa A.length ac) A) := own_keepX HO6.out (fun k hk => .inl (HO4.out.2 k hk)) hk7
          have HP7 : Hid (Own w7 w5.heap.size (.slice ba B.length bcp) B) := own_keepX HP6.out.1 (fun k hk => .inr (HP6.out.2 k hk)) hk7
          clear hx7 hb7 hk7 HCR
          obtain ⟨C, HC⟩ := hid_ex (B.take N)
          rw [← HC.out] at HQ
          have HCL : Hid (C.length = N) := by show C.length = N; rw [HC.out, List.length_take]; omega
          have HQ78 : Hid (A.length ≤ N ∧ N ≤ B.length) := ⟨q7, q8⟩
          clear q7 q8
          go_wp2_with fail
          refine (HRD.out w7 (sfCrash S3 n ks) C HQ.out.2.2.2.2.2.1 HQ.out.2.2.2.2.2.2 (HX7.out.fs 0 (by simp))).mono ?_
          rintro e w8 ⟨ca, ccp, rfl, ho8, hb8⟩
          have HB8 : Hid (Below W.heap.size W w8) := HB7.out.trans (hb8.mono HB7.out.size)
          have HO8 : Hid (Reads w8 (.slice aa A.length ac) A) := (HO7.out.below hb8).reads
          have HP8 : Hid (Reads w8 (.slice ba B.length bcp) B) := (HP7.out.below hb8).reads
          have HC8 : Hid (Reads w8 (.slice ca C.length ccp) C) := ho8.reads
          clear ho8 hb8 HRD HX7 HO7 HP7 HX6 HO6 HP6 HO5 HX5 HX4 HO4 HX3
          go_wp2_with fail
          have hcl := HCL.out
          obtain ⟨q7, q8⟩ := HQ78.out
          have hge : (A.length : Int) ≤ (C.length : Int) := by omega
          have hle : (C.length : Int) ≤ (B.length : Int) := by omega
          obtain ⟨pa, pc, hsl, hslr⟩ := sl_upto HP8.out (d := C.length) (by omega)
          have HSL : Hid (Reads w8 (.slice pa C.length pc) C) := by
            have := hslr
            rw [hcl, ← HC.out, ← hcl] at this
            exact this
          clear hslr hcl q7 q8
          refine wp_region_noPanic ?_
          refine wp_region_held_drew (S := (fun w' => Below w8.heap.size w8 w')) (by kernel_rfl) ?_ (fun hHeld => ?_)
          · exact (Below.refl _ _).drew
          refine wpAnyH_ready (rs := [0]) (by kernel_rfl) (by simp) ?_
          refine AllReadyH.cons (o := _) rfl (fun K hK => ?_) AllReadyH.nil
          go_simp
          refine (alive11_any _).mono ?_
          rintro e w9 ⟨rfl, hb9'⟩
          have hb9 : Below w8.heap.size w8 w9 := (Below.refl w8.heap.size w8).drew.trans hb9'
          have HB9 : Hid (Below w8.heap.size w8 w9) := hb9
          clear hb9' hb9
          go_simp
          refine hK.out _ _ ?_ (fun hHeld => ?_)
          · exact HB9.out
          clear hK K
          refine wpAnyH_take (i := 1) (v := .bool true) rfl (by kernel_rfl) (by kernel_rfl) (by kernel_rfl) (fun _ _ _ h => h) (Or.inl ⟨by rfl, ?_⟩) (by assumption) ?_
          · (intro w1 hSw; (try dsimp only at hSw); go_simp)
          simp only [List.getElem_toArray, List.getElem_cons_succ, List.getElem_cons_zero, Act.put, List.setIfInBounds_toArray, List.set_cons_zero, List.set_cons_succ]
          refine wpAnyH_take (i := 2) (v := .int .i64 0) rfl (by kernel_rfl) (by kernel_rfl) (by kernel_rfl) (fun _ _ _ h => h) (Or.inl ⟨by rfl, ?_⟩) (by assumption) ?_
          · (intro w1 hSw; (try dsimp only at hSw); go_simp)
          simp only [List.getElem_toArray, List.getElem_cons_succ, List.getElem_cons_zero, Act.put, List.setIfInBounds_toArray, List.set_cons_zero, List.set_cons_succ]
          refine wpAnyH_take (i := 3) (v := .bool true) rfl (by kernel_rfl) (by kernel_rfl) (by kernel_rfl) (fun _ _ _ h => h) (Or.inl ⟨by rfl, ?_⟩) (by assumption) ?_
          · (intro w1 hSw; (try dsimp only at hSw); go_simp)
          simp only [List.getElem_toArray, List.getElem_cons_succ, List.getElem_cons_zero, Act.put, List.setIfInBounds_toArray, List.set_cons_zero, List.set_cons_succ]
          refine wpAnyH_take (i := 4) (v := .bool true) rfl (by kernel_rfl) (by kernel_rfl) (by kernel_rfl) (fun _ _ _ h => h) (Or.inl ⟨by rfl, ?_⟩) (by assumption) ?_
          · (intro w1 hSw; (try dsimp only at hSw); go_simp)
          simp only [List.getElem_toArray, List.getElem_cons_succ, List.getElem_cons_zero, Act.put, List.setIfInBounds_toArray, List.set_cons_zero, List.set_cons_succ]
          refine wpAnyH_take (i := 5) (v := .bool true) rfl (by kernel_rfl) (by kernel_rfl) (by kernel_rfl) (fun _ _ _ h => h) (Or.inl ⟨by rfl, ?_⟩) (by assumption) ?_
          · (intro w1 hSw; (try dsimp only at hSw); go_simp)
          simp only [List.getElem_toArray, List.getElem_cons_succ, List.getElem_cons_zero, Act.put, List.setIfInBounds_toArray, List.set_cons_zero, List.set_cons_succ]
          refine wpAnyH_take (i := 6) (v := .slice ca C.length ccp) rfl (by kernel_rfl) (by kernel_rfl) (by kernel_rfl) (fun _ _ _ h => h) (Or.inl ⟨by rfl, ?_⟩) (by assumption) ?_
          · (intro w1 hSw; (try dsimp only at hSw); go_simp)
          simp only [List.getElem_toArray, List.getElem_cons_succ, List.getElem_cons_zero, Act.put, List.setIfInBounds_toArray, List.set_cons_zero, List.set_cons_succ]
          refine wpAnyH_take (i := 7) (v := .int .i64 (C.length : Int)) rfl (by kernel_rfl) (by kernel_rfl) (by kernel_rfl) (fun _ _ _ h => h) (Or.inl ⟨by rfl, ?_⟩) (by assumption) ?_
          · (intro w1 hSw; (try dsimp only at hSw); go_simp)
          simp only [List.getElem_toArray, List.getElem_cons_succ, List.getElem_cons_zero, Act.put, List.setIfInBounds_toArray, List.set_cons_zero, List.set_cons_succ]
          refine wpAnyH_take (i := 8) (v := .slice aa A.length ac) rfl (by kernel_rfl) (by kernel_rfl) (by kernel_rfl) (fun _ _ _ h => h) (Or.inl ⟨by rfl, ?_⟩) (by assumption) ?_
          · (intro w1 hSw; (try dsimp only at hSw); go_simp)
          simp only [List.getElem_toArray, List.getElem_cons_succ, List.getElem_cons_zero, Act.put, List.setIfInBounds_toArray, List.set_cons_zero, List.set_cons_succ]
          refine wpAnyH_take (i := 9) (v := .int .i64 (A.length : Int)) rfl (by kernel_rfl) (by kernel_rfl) (by kernel_rfl) (fun _ _ _ h => h) (Or.inl ⟨by rfl, ?_⟩) (by assumption) ?_
          · (intro w1 hSw; (try dsimp only at hSw); go_simp)
          simp only [List.getElem_toArray, List.getElem_cons_succ, List.getElem_cons_zero, Act.put, List.setIfInBounds_toArray, List.set_cons_zero, List.set_cons_succ]
          refine wpAnyH_take (i := 10) (v := .bool true) rfl (by kernel_rfl) (by kernel_rfl) (by kernel_rfl) (fun _ _ _ h => h) (Or.inl ⟨by rfl, ?_⟩) (by assumption) ?_
          · (intro w1 hSw; (try dsimp only at hSw); go_simp)
          simp only [List.getElem_toArray, List.getElem_cons_succ, List.getElem_cons_zero, Act.put, List.setIfInBounds_toArray, List.set_cons_zero, List.set_cons_succ]
          refine wpAnyH_take (i := 11) (v := .bool true) rfl (by kernel_rfl) (by kernel_rfl) (by kernel_rfl) (fun _ _ _ h => h) (Or.inl ⟨by rfl, ?_⟩) (by assumption) ?_
          · (intro w1 hSw; (try dsimp only at hSw); go_simp)
          simp only [List.getElem_toArray, List.getElem_cons_succ, List.getElem_cons_zero, Act.put, List.setIfInBounds_toArray, List.set_cons_zero, List.set_cons_succ]
          refine wpAnyH_take (i := 12) (v := .bool true) rfl (by kernel_rfl) (by kernel_rfl) (by kernel_rfl) (fun _ _ _ h => h) (Or.inl ⟨by rfl, ?_⟩) (by assumption) ?_
          · (intro w1 hSw; (try dsimp only at hSw); go_simp)
          simp only [List.getElem_toArray, List.getElem_cons_succ, List.getElem_cons_zero, Act.put, List.setIfInBounds_toArray, List.set_cons_zero, List.set_cons_succ]
          refine wpAnyH_take (i := 13) (v := .slice ca C.length ccp) rfl (by kernel_rfl) (by kernel_rfl) (by kernel_rfl) (fun _ _ _ h => h) (Or.inl ⟨by rfl, ?_⟩) (by assumption) ?_
          · (intro w1 hSw; (try dsimp only at hSw); go_simp)
          simp only [List.getElem_toArray, List.getElem_cons_succ, List.getElem_cons_zero, Act.put, List.setIfInBounds_toArray, List.set_cons_zero, List.set_cons_succ]
          refine wpAnyH_take (i := 14) (v := .int .i64 (C.length : Int)) rfl (by kernel_rfl) (by kernel_rfl) (by kernel_rfl) (fun _ _ _ h => h) (Or.inl ⟨by rfl, ?_⟩) (by assumption) ?_
          · (intro w1 hSw; (try dsimp only at hSw); go_simp)
          simp only [List.getElem_toArray, List.getElem_cons_succ, List.getElem_cons_zero, Act.put, List.setIfInBounds_toArray, List.set_cons_zero, List.set_cons_succ]
          refine wpAnyH_take (i := 15) (v := .slice ba B.length bcp) rfl (by kernel_rfl) (by kernel_rfl) (by kernel_rfl) (fun _ _ _ h => h) (Or.inl ⟨by rfl, ?_⟩) (by assumption) ?_
          · (intro w1 hSw; (try dsimp only at hSw); go_simp)
          simp only [List.getElem_toArray, List.getElem_cons_succ, List.getElem_cons_zero, Act.put, List.setIfInBounds_toArray, List.set_cons_zero, List.set_cons_succ]
          refine wpAnyH_take (i := 16) (v := .int .i64 (B.length : Int)) rfl (by kernel_rfl) (by kernel_rfl) (by kernel_rfl) (fun _ _ _ h => h) (Or.inl ⟨by rfl, ?_⟩) (by assumption) ?_
          · (intro w1 hSw; (try dsimp only at hSw); go_simp)
          simp only [List.getElem_toArray, List.getElem_cons_succ, List.getElem_cons_zero, Act.put, List.setIfInBounds_toArray, List.set_cons_zero, List.set_cons_succ]
          refine wpAnyH_take (i := 17) (v := .bool true) rfl (by kernel_rfl) (by kernel_rfl) (by kernel_rfl) (fun _ _ _ h => h) (Or.inl ⟨by rfl, ?_⟩) (by assumption) ?_
          · (intro w1 hSw; (try dsimp only at hSw); go_simp)
          simp only [List.getElem_toArray, List.getElem_cons_succ, List.getElem_cons_zero, Act.put, List.setIfInBounds_toArray, List.set_cons_zero, List.set_cons_succ]
          refine wpAnyH_take (i := 18) (v := .bool true) rfl (by kernel_rfl) (by kernel_rfl) (by kernel_rfl) (fun _ _ _ h => h) (Or.inl ⟨by rfl, ?_⟩) (by assumption) ?_
          · (intro w1 hSw; (try dsimp only at hSw); go_simp)
          simp only [List.getElem_toArray, List.getElem_cons_succ, List.getElem_cons_zero, Act.put, List.setIfInBounds_toArray, List.set_cons_zero, List.set_cons_succ]
          refine wpAnyH_take (i := 19) (v := .bool true) rfl (by kernel_rfl) (by kernel_rfl) (by kernel_rfl) (fun _ _ _ h => h) (Or.inl ⟨by rfl, ?_⟩) (by assumption) ?_
          · (intro w1 hSw; (try dsimp only at hSw); go_simp)
          simp only [List.getElem_toArray, List.getElem_cons_succ, List.getElem_cons_zero, Act.put, List.setIfInBounds_toArray, List.set_cons_zero, List.set_cons_succ]
          refine wpAnyH_take (i := 20) (v := .slice ca C.length ccp) rfl (by kernel_rfl) (by kernel_rfl) (by kernel_rfl) (fun _ _ _ h => h) (Or.inl ⟨by rfl, ?_⟩) (by assumption) ?_
          · (intro w1 hSw; (try dsimp only at hSw); go_simp)
          simp only [List.getElem_toArray, List.getElem_cons_succ, List.getElem_cons_zero, Act.put, List.setIfInBounds_toArray, List.set_cons_zero, List.set_cons_succ]
          refine wpAnyH_take (i := 21) (v := .string ⟨C.toArray⟩) rfl (by kernel_rfl) (by kernel_rfl) (by kernel_rfl) (fun _ _ _ h => h) (Or.inl ⟨by rfl, ?_⟩) (by assumption) ?_
          · (intro w1 hSw; (try dsimp only at hSw); have hcv := reads_text (HC8.out.below hSw); go_simp)
          simp only [List.getElem_toArray, List.getElem_cons_succ, List.getElem_cons_zero, Act.put, List.setIfInBounds_toArray, List.set_cons_zero, List.set_cons_succ]
          refine wpAnyH_take (i := 22) (v := .slice ba B.length bcp) rfl (by kernel_rfl) (by kernel_rfl) (by kernel_rfl) (fun _ _ _ h => h) (Or.inl ⟨by rfl, ?_⟩) (by assumption) ?_
          · (intro w1 hSw; (try dsimp only at hSw); go_simp)
          simp only [List.getElem_toArray, List.getElem_cons_succ, List.getElem_cons_zero, Act.put, List.setIfInBounds_toArray, List.set_cons_zero, List.set_cons_succ]
          refine wpAnyH_take (i := 23) (v := .slice ca C.length ccp) rfl (by kernel_rfl) (by kernel_rfl) (by kernel_rfl) (fun _ _ _ h => h) (Or.inl ⟨by rfl, ?_⟩) (by assumption) ?_
          · (intro w1 hSw; (try dsimp only at hSw); go_simp)
          simp only [List.getElem_toArray, List.getElem_cons_succ, List.getElem_cons_zero, Act.put, List.setIfInBounds_toArray, List.set_cons_zero, List.set_cons_succ]
          refine wpAnyH_take (i := 24) (v := .int .i64 (C.length : Int)) rfl (by kernel_rfl) (by kernel_rfl) (by kernel_rfl) (fun _ _ _ h => h) (Or.inl ⟨by rfl, ?_⟩) (by assumption) ?_
          · (intro w1 hSw; (try dsimp only at hSw); go_simp)
          simp only [List.getElem_toArray, List.getElem_cons_succ, List.getElem_cons_zero, Act.put, List.setIfInBounds_toArray, List.set_cons_zero, List.set_cons_succ]
          refine wpAnyH_take (i := 25) (v := .slice pa C.length pc) rfl (by kernel_rfl) (by kernel_rfl) (by kernel_rfl) (fun _ _ _ h => h) (Or.inl ⟨by rfl, ?_⟩) (by assumption) ?_
          · (intro w1 hSw; (try dsimp only at hSw); go_simp)
          simp only [List.getElem_toArray, List.getElem_cons_succ, List.getElem_cons_zero, Act.put, List.setIfInBounds_toArray, List.set_cons_zero, List.set_cons_succ]
          refine wpAnyH_take (i := 26) (v := .string ⟨C.toArray⟩) rfl (by kernel_rfl) (by kernel_rfl) (by kernel_rfl) (fun _ _ _ h => h) (Or.inl ⟨by rfl, ?_⟩) (by assumption) ?_
          · (intro w1 hSw; (try dsimp only at hSw); have hcv := reads_text (HSL.out.below hSw); go_simp)
          simp only [List.getElem_toArray, List.getElem_cons_succ, List.getElem_cons_zero, Act.put, List.setIfInBounds_toArray, List.set_cons_zero, List.set_cons_succ]
          refine wpAnyH_take (i := 27) (v := .bool true) rfl (by kernel_rfl) (by kernel_rfl) (by kernel_rfl) (fun _ _ _ h => h) (Or.inl ⟨by rfl, ?_⟩) (by assumption) ?_
          · (intro w1 hSw; (try dsimp only at hSw); go_simp)
          simp only [List.getElem_toArray, List.getElem_cons_succ, List.getElem_cons_zero, Act.put, List.setIfInBounds_toArray, List.set_cons_zero, List.set_cons_succ]
          refine wpAnyH_take (i := 28) (v := .bool true) rfl (by kernel_rfl) (by kernel_rfl) (by kernel_rfl) (fun _ _ _ h => h) (Or.inl ⟨by rfl, ?_⟩) (by assumption) ?_
          · (intro w1 hSw; (try dsimp only at hSw); go_simp)
          simp only [List.getElem_toArray, List.getElem_cons_succ, List.getElem_cons_zero, Act.put, List.setIfInBounds_toArray, List.set_cons_zero, List.set_cons_succ]
          refine wpAnyH_ready (rs := [29]) (by kernel_rfl) (by simp) ?_
          refine AllReadyH.cons (o := _) rfl (fun K hK => ?_) AllReadyH.nil
          go_simp
          refine hK.out _ _ ?_ (fun hHeld => ?_)
          · exact HB9.out
          clear hK K
          refine wpAnyH_done (by kernel_rfl) ?_ _
          refine NoPanic.normal ?_
          go_wp2_with fail
          go_ret
          exact ⟨rfl, HB8.out.trans (HB9.out.mono HB8.out.size)⟩
end Go.Proofs.Yteajfbgodfpioaa
