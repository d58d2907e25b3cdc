/- File systems beside other memory; SimfsSync. -/
import Derived.Test.YteajfbgodfpioaaSFV
namespace Go.Proofs.Yteajfbgodfpioaa
open Go.RowKit Go.Maps Go.Sort

/-- File systems, and blocks X that none of them has. -/
def FamX (w : World) (base : Nat) (L : List (Value × SfS)) (X : Nat → Prop) : Prop :=
  base ≤ w.heap.size ∧ (∀ k, X k → k < w.heap.size) ∧ ∃ O : Nat → Nat → Prop, (∀ i (h : i < L.length), Fs w (O i) L[i].1 L[i].2 ∧ ∀ k, O i k → base ≤ k) ∧ (∀ i j, i < L.length → j < L.length → i ≠ j → ∀ k, O i k → ¬ O j k) ∧ ∀ i k, i < L.length → O i k → ¬ X k
theorem Fam.x {w : World} {base : Nat} {L : List (Value × SfS)} (h : Fam w base L) : FamX w base L (fun _ => False) := by
  obtain ⟨h0, O, h1, h2⟩ := h
  exact ⟨h0, fun _ q => q.elim, O, h1, h2, fun _ _ _ _ q => q⟩
theorem FamX.fam {w : World} {base : Nat} {L : List (Value × SfS)} {X : Nat → Prop} (h : FamX w base L X) : Fam w base L := by
  obtain ⟨h0, _, O, h1, h2, _⟩ := h
  exact ⟨h0, O, h1, h2⟩
theorem FamX.below {w w' : World} {base : Nat} {L : List (Value × SfS)} {X : Nat → Prop} (h : FamX w base L X) (hb : Below w.heap.size w w') : FamX w' base L (fun k => X k ∨ (w.heap.size ≤ k ∧ k < w'.heap.size)) := by
  obtain ⟨h0, hx, O, h1, h2, h3⟩ := h
  have hs := hb.size
  refine ⟨Nat.le_trans h0 hs, fun k q => q.elim (fun z => by have := hx k z; omega) (fun z => z.2), O, fun i hi => ⟨(h1 i hi).1.below hb, (h1 i hi).2⟩, h2, fun i k hi q z => ?_⟩
  rcases z with z | z
  · exact h3 i k hi q z
  · have := (h1 i hi).1.lt k q; omega
theorem FamX.less {w : World} {base : Nat} {L : List (Value × SfS)} {X Y : Nat → Prop} (h : FamX w base L X) (hy : ∀ k, Y k → X k) : FamX w base L Y := by
  obtain ⟨h0, hx, O, h1, h2, h3⟩ := h
  exact ⟨h0, fun k q => hx k (hy k q), O, h1, h2, fun i k hi q z => h3 i k hi q (hy k z)⟩
theorem FamX.call {w : World} {base : Nat} {L : List (Value × SfS)} {X : Nat → Prop} (h : FamX w base L X) (i : Nat) (hi : i < L.length) {F : Nat} {args : Array Value} {r : Int × SfS} (hc : ∀ O, Fs w O L[i].1 L[i].2 → (∀ k, O k → base ≤ k) → (∀ k, O k → ¬ X k) → Calls Try.prog F args w (FsR w O L[i].1 r)) :
    Calls Try.prog F args w fun e w' => e = .returned (.int .i64 r.1) ∧ FamX w' base (L.set i (L[i].1, r.2)) X ∧ Below base w w' ∧ ∀ k, X k → w'.heap[k]? = w.heap[k]? := by
  obtain ⟨h0, hx, O, h1, h2, h3⟩ := h
  refine (hc (O i) (h1 i hi).1 (h1 i hi).2 (fun k q => h3 i k hi q)).mono ?_
  rintro e w' ⟨he, hf, ho⟩
  refine ⟨he, ⟨Nat.le_trans h0 ho.size, fun k q => by have := hx k q; have := ho.size; omega, fun j k => if j = i then Grw (O i) w w' k else O j k, fun j hj => ?_, fun a b ha hb hab k q1 q2 => ?_, fun j k hj q z => ?_⟩, ho.below h0 (h1 i hi).2, fun k q => ho.block k (hx k q) (fun z => h3 i k hi z q)⟩
  · simp at hj
    by_cases e' : j = i
    · subst e'
      simp only [if_true, List.getElem_set_self]
      refine ⟨hf, fun k q => ?_⟩
      rcases q with q | q
      · exact (h1 j hi).2 k q
      · omega
    · simp only [e', if_false]
      rw [List.getElem_set_ne (Ne.symm e')]
      exact ⟨(h1 j hj).1.other ho (h2 j i hj hi e'), (h1 j hj).2⟩
  · simp at ha hb
    by_cases ea : a = i
    · subst ea
      have eb : b ≠ a := Ne.symm hab
      simp only [if_true] at q1
      simp only [eb, if_false] at q2
      rcases q1 with q1 | q1
      · exact h2 a b ha hb hab k q1 q2
      · have := (h1 b hb).1.lt k q2; omega
    · simp only [ea, if_false] at q1
      by_cases eb : b = i
      · subst eb
        simp only [if_true] at q2
        rcases q2 with q2 | q2
        · exact h2 a b ha hb hab k q1 q2
        · have := (h1 a ha).1.lt k q1; omega
      · simp only [eb, if_false] at q2
        exact h2 a b ha hb hab k q1 q2
  · simp at hj
    by_cases e' : j = i
    · subst e'
      simp only [if_true] at q
      rcases q with q | q
      · exact h3 j k hj q z
      · have := hx k z; omega
    · simp only [e', if_false] at q
      exact h3 j k hj q z
theorem FamX.fs {w : World} {base : Nat} {L : List (Value × SfS)} {X : Nat → Prop} (h : FamX w base L X) (i : Nat) (hi : i < L.length) : ∃ O, Fs w O L[i].1 L[i].2 := h.fam.fs i hi
/-! without a plan -/
theorem plan_none {s : SfS} (h : s.fault = 0) : sfPlan s = (0, s) := by unfold sfPlan; rw [if_pos h]
theorem change_fault {s : SfS} (h : s.fault = 0) (a : SfA) : (sfChange s a).2.fault = 0 := by
  unfold sfChange; rw [plan_none h, if_pos rfl]; exact h
theorem call_fault {s : SfS} (h : s.fault = 0) (o : SfO) (h7 : o.k ≠ 7) : (sfCall s o).2.fault = 0 := by
  unfold sfCall
  split
  · unfold sfCreate
    split
    · exact h
    · split
      · exact h
      · split
        · exact h
        · exact change_fault (s := sfNew s) h _
  · split
    · unfold sfAppend
      split
      · exact h
      · split
        · exact h
        · split
          · exact h
          · rw [plan_none h, if_pos rfl]; exact h
    · split
      · unfold sfSync
        split
        · exact h
        · rw [plan_none h, if_pos rfl]; exact h
      · split
        · unfold sfRename
          split
          · exact h
          · split
            · exact h
            · exact change_fault h _
        · split
          · unfold sfRemove
            split
            · exact h
            · exact change_fault h _
          · split
            · unfold sfSyncDir; rw [plan_none h, if_pos rfl]; exact h
            · split
              · rfl
              · exact h
theorem pl_fault : ∀ (L : List SfO) (s : SfS), s.fault = 0 → (L.foldl sfPl s).fault = 0
  | [], _, h => h
  | o :: L, s, h => by
    rw [List.foldl_cons]
    refine pl_fault L _ ?_
    unfold sfPl
    split
    · rename_i hq; exact call_fault h o hq.2
    · exact h
theorem played_fault (r : Int) (L : List SfO) : (sfPlayed r L).fault = 0 := pl_fault _ _ rfl
/-! all is synced -/
theorem fl_setF (s : SfS) {i : Nat} (f : List UInt8 × Nat) (j : Nat) (hi : i < s.fls.length) : (s.setF i f).fl j = if i = j then f else s.fl j := by
  unfold SfS.fl SfS.setF
  rw [getD_set]
  by_cases e : i = j
  · simp [e, e ▸ hi]
  · simp [e]
theorem sync_some {s : SfS} {n : List UInt8} {i : Nat} (h : s.fault = 0) (hl : sfLook n s.dir = some i) : sfSync s n = (0, s.setF i ((s.fl i).1, (s.fl i).1.length)) := by
  unfold sfSync; rw [hl]; simp only []; rw [plan_none h, if_pos rfl]
theorem syncDir_some {s : SfS} (h : s.fault = 0) (hw : SfWf s) : sfSyncDir s = (0, { s with old := s.dir, pend := [] }) := by
  unfold sfSyncDir; rw [plan_none h, if_pos rfl]
  unfold sfSettle
  rw [List.take_length, ← hw.ap]
theorem crash_synced {s : SfS} (h : ∀ p ∈ s.dir, fFull (s.fl p.2)) (n : Int) (ks : List Int) : sfView (sfCrash { s with old := s.dir, pend := [] } n ks) = sfView s := by
  have e : (sfCrash { s with old := s.dir, pend := [] } n ks).fls = s.fls := by
    show sfCuts (((([] : List SfA)).take _).foldl sfDo s.dir) ks s.fls = _
    rw [List.take_nil, List.foldl_nil]
    exact cuts_id _ _ _ h
  have ed : (sfCrash { s with old := s.dir, pend := [] } n ks).dir = s.dir := by
    show ((([] : List SfA)).take _).foldl sfDo s.dir = _
    rw [List.take_nil, List.foldl_nil]
  unfold sfView SfS.fl
  rw [ed, e]
/-- Synced up to j. -/
structure SyI (S T : SfS) (j : Nat) : Prop where
  d : T.dir = S.dir
  f : T.fault = 0
  b : ∀ i, (T.fl i).1 = (S.fl i).1
  s : ∀ q (h : q < S.dir.length), q < j → fFull (T.fl S.dir[q].2)
theorem SyI.step {S T : SfS} {j : Nat} (h : SyI S T j) (hw : SfWf T) (hj : j < S.dir.length) (hp : S.dir.Pairwise (fun p q => p.1 ≠ q.1)) : sfSync T S.dir[j].1 = (0, T.setF S.dir[j].2 ((T.fl S.dir[j].2).1, (T.fl S.dir[j].2).1.length)) ∧ SyI S (T.setF S.dir[j].2 ((T.fl S.dir[j].2).1, (T.fl S.dir[j].2).1.length)) (j + 1) := by
  have hl : sfLook S.dir[j].1 T.dir = some S.dir[j].2 := by rw [h.d]; exact mem_look hp (List.getElem_mem hj)
  have hi : S.dir[j].2 < T.fls.length := (hw.di _ (look_mem hl)).1
  refine ⟨sync_some h.f hl, h.d, h.f, fun i => ?_, fun q hq hqj => ?_⟩
  · rw [fl_setF _ _ _ hi]
    split
    · rename_i e; rw [← e]; exact h.b _
    · exact h.b i
  · rw [fl_setF _ _ _ hi]
    split
    · rfl
    · rename_i e
      have : q ≠ j := fun z => e (by subst z; rfl)
      exact h.s q hq (by omega)
theorem SyI.view {S T : SfS} (h : SyI S T S.dir.length) (hw : SfWf T) (n : Int) (ks : List Int) : sfSyncDir T = (0, { T with old := T.dir, pend := [] }) ∧ sfView (sfCrash { T with old := T.dir, pend := [] } n ks) = sfView S := by
  refine ⟨syncDir_some h.f hw, ?_⟩
  rw [crash_synced (fun p hp => ?_)]
  · unfold sfView
    rw [h.d]
    exact List.map_congr_left fun p _ => by rw [h.b]
  · rw [h.d] at hp
    obtain ⟨q, hq, rfl⟩ := List.getElem_of_mem hp
    exact h.s q hq hq
set_option maxRecDepth 100000 in
set_option maxHeartbeats 4000000 in
theorem sync_walk (r : Int) (ov : Value) (L : List SfO) (n : Int) (kv : Value) (ks : List Int) (W : World) (hr1 : -9223372036854775808 ≤ r) (hr2 : r < 9223372036854775808) (hL : OsR W ov L) (hK : KReads W kv ks) :
    Calls Try.prog 7 #[.int .i64 r, ov, .int .i64 n, kv] W fun e w' => e = .returned (.bool true) ∧ Below W.heap.size W w' := by
  obtain ⟨ka, kc, rfl, hkl⟩ := hK.form
  have HL : Hid (OsR W ov L) := hL
  have HK : Hid (KReads W (.slice ka ks.length kc) ks) := hK
  clear hL hK
  have hkl' : (ks.length : Int) ≤ 9223372036854775807 := by simp only [maxLen] at hkl; omega
  go_enter Try.func7, Try.ntmps7
  go_wp2_with fail
  refine (played_any r hr1 hr2 ov L W HL.out).mono ?_
  rintro e w1 ⟨hb1, hc1⟩
  have HB1 : Hid (Below W.heap.size W w1) := hb1
  have HL1 : Hid (OsR w1 ov L) := HL.out.below hb1
  clear hb1
  rcases hc1 with ⟨hr, rfl⟩ | ⟨hr, g, rfl, hf1, hp1⟩
  · go_wp2_with fail
    refine (played_any r hr1 hr2 ov L w1 HL1.out).mono ?_
    rintro e w2 ⟨hb2, hc2⟩
    have HB2 : Hid (Below W.heap.size W w2) := HB1.out.trans (hb2.mono HB1.out.size)
    clear hb2
    rcases hc2 with ⟨-, rfl⟩ | ⟨hrr, _⟩
    · go_wp2_with fail
      refine (alive11_any w2).mono ?_
      rintro e w3 ⟨rfl, hb3⟩
      go_wp2_with fail
      go_ret
      exact ⟨rfl, HB2.out.trans (hb3.mono HB2.out.size)⟩
    · exfalso; omega
  · have HF1 : Hid (Fam w1 W.heap.size [(.pointer (some ⟨g, 0, none⟩), sfPlayed r L)]) := Fam.push (fam_nil (Nat.le_refl _)) HB1.out hf1
    have HWF : Hid (SfWf (sfPlayed r L)) := hf1.1
    have HSO : Hid ((sfPlayed r L).dir.Pairwise (fun p q => p.1 ≠ q.1)) := sorted_ne (Fs.sorted hf1)
    have HFT : Hid ((sfPlayed r L).fault = 0) := played_fault r L
    clear hf1 hp1
    go_wp2_with fail
    refine (played_any r hr1 hr2 ov L w1 HL1.out).mono ?_
    rintro e w2 ⟨hb2, hc2⟩
    rcases hc2 with ⟨hrr, _⟩ | ⟨-, g2, rfl, hf2, hp2⟩
    · exfalso; omega
    · obtain ⟨S, HS⟩ := hid_ex (sfPlayed r L)
      rw [← HS.out] at hf2 HF1 HWF HSO HFT
      have HF2 : Hid (Fam w2 W.heap.size [(.pointer (some ⟨g, 0, none⟩), S), (.pointer (some ⟨g2, 0, none⟩), S)]) := Fam.push HF1.out hb2 hf2
      have HB2 : Hid (Below W.heap.size W w2) := HB1.out.trans (hb2.mono HB1.out.size)
      clear hf2 hb2 hp2 HF1 HB1 HL1 hr
      by_cases h1 : 300 < ks.length
      · have h1' : (300 : Int) < (ks.length : Int) := by omega
        go_wp2_with fail
        refine (alive11_any w2).mono ?_
        rintro e w3 ⟨rfl, hb3⟩
        go_wp2_with fail
        go_ret
        exact ⟨rfl, HB2.out.trans (hb3.mono HB2.out.size)⟩
      · have h1' : ¬ (300 : Int) < (ks.length : Int) := by omega
        have hdl := HWF.out.dl
        obtain ⟨N, HN⟩ := hid_ex S.dir.length
        rw [← HN.out] at hdl
        obtain ⟨O, hfs⟩ := HF2.out.fs 0 (by simp)
        have HFS : Hid (Fs w2 O (.pointer (some ⟨g, 0, none⟩)) S) := hfs
        clear hfs
        go_wp2_with fail
        refine (Fs.list HFS.out).mono ?_
        rintro e w3 ⟨lv, rfl, hrow, hb3⟩
        rw [← HN.out] at hrow
        obtain ⟨la, lc, hlv⟩ := row_form hrow
        subst hlv
        have HX3 : Hid (FamX w3 W.heap.size [(.pointer (some ⟨g, 0, none⟩), S), (.pointer (some ⟨g2, 0, none⟩), S)] (fun k => w2.heap.size ≤ k ∧ k < w3.heap.size)) := (HF2.out.x.below hb3).less (fun k q => .inr q)
        have HB3 : Hid (Below W.heap.size W w3) := HB2.out.trans (hb3.mono HB2.out.size)
        have HR3 : Hid (w3.ownsRow w2.heap.size 9 1 (.slice la N lc) N (S.dir.map fun p => sv p.1)) := hrow
        have hs23 := hb3.size
        clear hrow hb3 HFS
        go_wp2_with fail
        go_loopw [12] (fun i wr => ∃ (j : Nat) (T : SfS), i = .int .i64 (j : Int) ∧ j ≤ N ∧ Hid (FamX wr W.heap.size [(.pointer (some ⟨g, 0, none⟩), T), (.pointer (some ⟨g2, 0, none⟩), S)] (fun k => w2.heap.size ≤ k ∧ k < w3.heap.size)) ∧ Hid (SyI S T j) ∧ Hid (wr.ownsRow w2.heap.size 9 1 (.slice la N lc) N (S.dir.map fun p => sv p.1)) ∧ Hid (∀ k, (Value.slice la N lc).ownBlock = some k → w2.heap.size ≤ k ∧ k < w3.heap.size) ∧ Hid (Below W.heap.size W wr)) (fun i _ => N - (intOf i).toNat)
        case atStart => exact ⟨0, S, rfl, by omega, HX3, ⟨rfl, HFT.out, fun _ => rfl, fun q _ hq => by omega⟩, HR3, fun k hk => World.ownsRow.lt HR3.out k hk, HB3⟩
        case round =>
          obtain ⟨j, T, rfl, hj, HX, HI, HR, HK2, HB⟩ := hrel
          by_cases hlt : j < N
          · have hlt' : (j : Int) < (N : Int) := by omega
            have hjd : j < S.dir.length := by rw [← HN.out]; exact hlt
            obtain ⟨b, hla, x0⟩ := row_str' HR.out HN.out hlt
            subst hla
            obtain ⟨OT, hft⟩ := HX.out.fs 0 (by simp)
            obtain ⟨hs1, hs2⟩ := HI.out.step hft.1 hjd HSO.out
            have hnm := (HWF.out.di _ (List.getElem_mem hjd)).2
            obtain ⟨nm, HNm⟩ := hid_ex S.dir[j].1
            obtain ⟨T2, HT2⟩ := hid_ex (T.setF S.dir[j].2 ((T.fl S.dir[j].2).1, (T.fl S.dir[j].2).1.length))
            rw [← HNm.out] at x0 hs1 hnm
            rw [← HT2.out] at hs1 hs2
            have HI2 : Hid (SyI S T2 (j + 1)) := hs2
            have HSY : Hid (Calls Try.prog 19 #[.pointer (some ⟨g, 0, none⟩), .string ⟨nm.toArray⟩] wr fun e w' => e = .returned (.int .i64 0) ∧ FamX w' W.heap.size [(.pointer (some ⟨g, 0, none⟩), T2), (.pointer (some ⟨g2, 0, none⟩), S)] (fun k => w2.heap.size ≤ k ∧ k < w3.heap.size) ∧ Below W.heap.size wr w' ∧ ∀ k, (w2.heap.size ≤ k ∧ k < w3.heap.size) → w'.heap[k]? = wr.heap[k]?) := by
              have := HX.out.call 0 (by simp) (F := 19) (args := #[.pointer (some ⟨g, 0, none⟩), .string ⟨nm.toArray⟩]) (r := sfSync T nm) (fun O' hf _ _ => hf.sync nm (by simp only [maxLen]; omega))
              rw [hs1] at this
              exact this
            clear hs1 hs2 hft HNm HT2 hjd hnm
            go_wp2_with fail
            refine HSY.out.mono ?_
            rintro e w4 ⟨rfl, hx4, hb4, hk4⟩
            have HX4 : Hid (FamX w4 W.heap.size [(.pointer (some ⟨g, 0, none⟩), T2), (.pointer (some ⟨g2, 0, none⟩), S)] (fun k => w2.heap.size ≤ k ∧ k < w3.heap.size)) := hx4
            have HB4 : Hid (Below W.heap.size W w4) := HB.out.trans hb4
            have HR4 : Hid (w4.ownsRow w2.heap.size 9 1 (.slice (some ⟨b, 0, none⟩) N lc) N (S.dir.map fun p => sv p.1)) := by
              have h2 := HR.out
              refine ⟨h2.1, ?_⟩
              rcases h2.2 with z | ⟨g', cap, cur, hv, hg, hw, rr⟩
              · exact .inl z
              · refine .inr ⟨g', cap, cur, hv, hg, ?_, rr⟩
                rw [hk4 g' (HK2.out g' (by rw [hv]; rfl))]; exact hw
            clear hx4 hb4 hk4 HSY
            go_wp2_with fail
            go_roundw
            case rel => exact ⟨j + 1, T2, by go_num, by omega, HX4, HI2, HR4, HK2, HB4⟩
            case measure => simp [intOf]; omega
          · have hlt' : ¬ (j : Int) < (N : Int) := by omega
            have hjn : j = S.dir.length := by rw [← HN.out]; omega
            obtain ⟨OT, hft⟩ := HX.out.fs 0 (by simp)
            have hwT : SfWf T := hft.1
            have hv := SyI.view (hjn ▸ HI.out) hwT n ks
            clear hwT
            have HV : Hid (sfView (sfCrash { T with old := T.dir, pend := [] } n ks) = sfView S) := hv.2
            have HSD : Hid (Calls Try.prog 20 #[.pointer (some ⟨g, 0, none⟩)] wr fun e w' => e = .returned (.int .i64 0) ∧ Fam w' W.heap.size [(.pointer (some ⟨g, 0, none⟩), { T with old := T.dir, pend := [] }), (.pointer (some ⟨g2, 0, none⟩), S)] ∧ Below W.heap.size wr w') := by
              have := HX.out.fam.call 0 (by simp) (F := 20) (args := #[.pointer (some ⟨g, 0, none⟩)]) (r := sfSyncDir T) (fun O' hf _ => hf.syncDir)
              rw [hv.1] at this
              exact this
            obtain ⟨T2, HT2⟩ := hid_ex ({ T with old := T.dir, pend := [] } : SfS)
            rw [← HT2.out] at HV HSD
            clear hv hft hjn HX HI HR HK2
            go_wp2_with fail
            refine HSD.out.mono ?_
            rintro e w4 ⟨rfl, hf4, hb4⟩
            have HF4 : Hid (Fam w4 W.heap.size [(.pointer (some ⟨g, 0, none⟩), T2), (.pointer (some ⟨g2, 0, none⟩), S)]) := hf4
            have HB4 : Hid (Below W.heap.size W w4) := HB.out.trans hb4
            clear hf4 hb4 HSD
            go_wp2_with fail
            refine (HF4.out.crash HB4.out 0 (by simp) n HK.out).mono ?_
            rintro e w5 ⟨rfl, hf5, hb5⟩
            have HF5 : Hid (Fam w5 W.heap.size [(.pointer (some ⟨g, 0, none⟩), sfCrash T2 n ks), (.pointer (some ⟨g2, 0, none⟩), S)]) := hf5
            have HB5 : Hid (Below W.heap.size W w5) := HB4.out.trans hb5
            clear hf5 hb5
            go_wp2_with fail
            refine (alive11_any w5).mono ?_
            rintro e w6 ⟨rfl, hb6⟩
            have HF6 : Hid (Fam w6 W.heap.size [(.pointer (some ⟨g, 0, none⟩), sfCrash T2 n ks), (.pointer (some ⟨g2, 0, none⟩), S)]) := HF5.out.below hb6
            have HB6 : Hid (Below W.heap.size W w6) := HB5.out.trans (hb6.mono HB5.out.size)
            clear hb6
            go_wp2_with fail
            refine (HF6.out.same 0 1 (by simp) (by simp) HV.out).mono ?_
            rintro e w7 ⟨rfl, hb7⟩
            go_wp2_with fail
            go_ret
            exact ⟨rfl, HB6.out.trans (hb7.mono HB6.out.size)⟩
end Go.Proofs.Yteajfbgodfpioaa
