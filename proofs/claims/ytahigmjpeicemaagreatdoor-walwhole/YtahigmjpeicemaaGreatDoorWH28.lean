/- WR8, joined. -/
import Derived.Test.YtahigmjpeicemaaGreatDoorWH27
/- The reference's Read of a batch, and of any bytes (written by mkwr8.py). -/
namespace Go.Proofs.YtahigmjpeicemaaGreatDoor
open Go.RowKit Go.Shelf

theorem stopL {P : Program} {ops : Array Oper} {Q : Exit → Act → World → Prop} {l : List Oper} {a : Act} {w : World} (h : Stop (wpList P ops Q l a w)) : wpList P ops Q l a w := h.out
theorem row_mono2 {w : World} {b1 b2 : Nat} {v : Value} {L : List ByteArray} (h : SOwn w b1 v L) (hb : b2 ≤ b1) : SOwn w b2 v L := by
  obtain ⟨⟨h1, h2⟩, h3⟩ := h
  refine ⟨⟨h1, ?_⟩, h3⟩
  rcases h2 with h2 | ⟨g, cap, cur, hv, hg, r⟩
  · exact .inl h2
  · exact .inr ⟨g, cap, cur, hv, by omega, r⟩
set_option maxRecDepth 100000 in
set_option maxHeartbeats 4000000 in
theorem wrefRead_B9 {w : World} (b : List UInt8) (hbl : b.length ≤ 5000) (hlen : 1 < b.length) (bb off cap : Nat) (hbw : bb < w.heap.size) (hc : b[0]? = some 1) (hcell : w.cell? ⟨bb, off, none⟩ = some (bc 1)) (h9 : b.length = 9) (hR : Reads w (.slice (some ⟨bb, off, none⟩) b.length cap) b) : Calls Tryz.prog 54 #[.slice (some ⟨bb, off, none⟩) b.length cap] w (RdW w b) := by
  have HR : Hid (Reads w (.slice (some ⟨bb, off, none⟩) b.length cap) b) := hR
  have HI0 : Hid (IRd w (.slice none 0 0) [] ((w.alloc (.cells #[.slice none 0 0, .int .i64 0] 46)).alloc (.cells #[.slice none 0 0, .int .i64 (-1)] 46))) := ird0 w
  clear hR
  have hd9 : ((b.length : Int) == 9) = true := by simp; omega
  have hl1 : (1 : Int) < (b.length : Int) := by omega
  have c0 : ((w.alloc (.cells #[.slice none 0 0, .int .i64 0] 46)).alloc (.cells #[.slice none 0 0, .int .i64 (-1)] 46)).cell? ⟨bb, off, none⟩ = some (.int .u8 1) := (HI0.out.b.cell (p := ⟨bb, off, none⟩) hbw).trans hcell
  obtain ⟨a1, c1, hsl1, hrd1⟩ := sl_from HR.out (c := 1) (by omega)
  have hsl2 : ∀ w', (Instr.slice 28 (.slice (some ⟨bb, off, none⟩) b.length cap) (some (.int .i64 1)) none none).run Tryz.prog w' = .ok (.slice a1 (b.length - 1) c1) w' := hsl1
  obtain ⟨C, HC⟩ := hid_ex (rsF (b.drop 1) 0 0).1
  obtain ⟨N, HN⟩ := hid_ex (rsF (b.drop 1) 0 0).2.1
  obtain ⟨E0, HE0⟩ := hid_ex (rsF (b.drop 1) 0 0).2.2
  have HRS : Hid (Calls Tryz.prog 83 #[.slice a1 (b.length - 1) c1] ((w.alloc (.cells #[.slice none 0 0, .int .i64 0] 46)).alloc (.cells #[.slice none 0 0, .int .i64 (-1)] 46)) fun e w' => e = .returned (.tuple #[.int .u64 (C : Int), .int .i64 (N : Int), .int .i64 E0]) ∧ Below ((w.alloc (.cells #[.slice none 0 0, .int .i64 0] 46)).alloc (.cells #[.slice none 0 0, .int .i64 (-1)] 46)).heap.size ((w.alloc (.cells #[.slice none 0 0, .int .i64 0] 46)).alloc (.cells #[.slice none 0 0, .int .i64 (-1)] 46)) w') := by
    have := refReadShort_any _ (b.drop 1) _ (hrd1.below HI0.out.b)
    rw [← HC.out, ← HN.out, ← HE0.out] at this
    exact this
  obtain ⟨K, HK⟩ := hid_ex (min C 17)
  have HG0 : Hid (g2F b = (gF K (b.drop (1 + N))).map fun fs => (fs, -1)) := by
    have hA : ¬ isA b := fun h => by have := h.2; rw [hc] at this; simp at this
    have hB : isB b := ⟨hlen, hc⟩
    unfold Hid g2F
    rw [if_neg hA, if_pos hB, HK.out, HN.out, HC.out]
    rfl
  have HNl : Hid (1 + N ≤ b.length) := by
    have hdl : (b.drop 1).length = b.length - 1 := by simp
    unfold Hid
    rw [HN.out]
    by_cases e : (rsF (b.drop 1) 0 0).2.2 = 0
    · obtain ⟨u, q, h1, _, h3, _⟩ := rsF_ok (b.drop 1) 0 0 (rsF (b.drop 1) 0 0).1 (rsF (b.drop 1) 0 0).2.1 (by rw [← e]) (by omega) (by simp)
      omega
    · rw [(rsF_bad (b.drop 1) 0 0 e).2]; omega
  have hNl := HNl.out
  have hK17 : K ≤ 17 := by rw [HK.out]; omega
  have hKC : ∀ k : Nat, (k : Int) < (C : Int) → (k : Int) < 17 → k < K := by intro k h1 h2; rw [HK.out]; omega
  have HKN : Hid (∀ k : Nat, k ≤ K → ¬ ((k : Int) < (C : Int) ∧ (k : Int) < 17) → k = K) := by intro k h0 h2; rw [HK.out] at h0 ⊢; omega
  have HKC : Hid (∀ k : Nat, (k : Int) < (C : Int) → (k : Int) < 17 → k < K) := hKC
  clear h9 hsl1 hrd1 HC HN HE0 hc HK hKC
  go_enter Tryz.func54, Tryz.ntmps54
  go_wp2_with fail
  refine HRS.out.mono ?_
  rintro e w1 ⟨rfl, hb1⟩
  have HI1 : Hid (IRd w (.slice none 0 0) [] w1) := HI0.out.below hb1
  clear hb1 HRS c0 hsl2 HI0
  go_wp2_with fail
  go_loopw [8, 9] (fun av i wr => ∃ (k A : Nat) (pre : List Fa) (ad : Option Addr) (n cd : Nat), k ≤ K ∧ A ≤ b.length ∧ av = .int .i64 (A : Int) ∧ i = .int .u64 (k : Int) ∧ Hid (pre.length = k) ∧ Hid (gF K (b.drop (1 + N)) = (gF (K - k) (b.drop A)).map fun q => pre.map Fa.p ++ q) ∧ Hid (IRd w (.slice ad n cd) pre wr)) (fun _ i _ => 17 - (intOf i).toNat)
  case atStart =>
    refine ⟨0, 1 + N, [], none, 0, 0, by omega, hNl, by go_num, rfl, rfl, ?_, HI1⟩
    simp [Hid]
  case round =>
    obtain ⟨k, A, pre, av, n, cv, hk, hA, rfl, rfl, HML, HD, HI⟩ := hrel
    by_cases hlt : (k : Int) < (C : Int) ∧ (k : Int) < 17
    · obtain ⟨hl, h17⟩ := hlt
      have hkK := HKC.out k hl h17
      obtain ⟨ar, cr, hsl, hrd⟩ := sl_from HR.out hA
      obtain ⟨r, Hr⟩ := hid_ex (b.drop A)
      have hrl : r.length ≤ 10000 := by rw [Hr.out]; simp; omega
      have Hrl : Hid (r.length = b.length - A) := by unfold Hid; rw [Hr.out]; simp
      rw [← Hr.out] at HD hrd
      have HFt : Hid (Calls Tryz.prog 84 #[.slice ar (b.length - A) cr] wr (FrPost wr r)) := wrefFact_any _ r hrl wr (hrd.below HI.out.b)
      have HD1 : Hid (gF (K - k) r = match rdF r with
          | none => none
          | some (f, r') => (gF (K - (k + 1)) r').map (f :: ·)) := by
        unfold Hid; rw [show K - k = (K - (k + 1)) + 1 by omega, gF]; cases rdF r <;> rfl
      clear hrd hrl
      go_wp2_with fail
      refine HFt.out.mono ?_
      rintro e w5 h5
      unfold FrPost at h5
      obtain ⟨hb5, h5⟩ := h5
      have HI5 : Hid (IRd w (.slice av n cv) pre w5) := HI.out.below hb5
      have hsz5 := hb5.size
      have hIg := HI.out.g
      cases hrf : rdF r with
      | none =>
        rw [hrf] at h5 HD1
        obtain ⟨fa, fn, fc, ft, fx, rfl⟩ := h5
        have HNo : Hid (rdR b = none) := g2_none (by rw [HG0.out, HD.out, HD1.out]; rfl)
        have HI6 : Hid (IRd w (.slice av n cv) pre (w5.alloc (.cells #[.slice fa fn fc, .int .i64 ft, .int .i64 fx] 90))) := HI5.out.below ((Below.refl _ _).alloc (Nat.le_refl _) _)
        have c0 := cl3 HI6.out.z 0 (by simp)
        have c1 := cl3 HI6.out.z 1 (by simp)
        have f0 := fz3 HI6.out.z 0
        have f1 := fz3 HI6.out.z 1
        simp only [List.getElem_toArray, List.getElem_cons_succ, List.getElem_cons_zero] at c0 c1
        clear hb5 HI HFt hsl hrf HD1 HD
        go_wp2_with fail
        have HK3 := set2b HI6.out.z rfl (.slice none 0 0) (.int .i64 0)
        refine bodyPost_ret (results_ct rfl _ _ w.heap.size _ rfl (run_loadVar_row _ w.heap.size _ _ _ (0, 0) _ HK3 Tryz.underlying46 rfl (by kernel_rfl))) rfl ?_
        exact rdx_no HNo.out ((HI6.out.b.setCell (p := ⟨w.heap.size, 0, none⟩) (Nat.le_refl _) _).setCell (p := ⟨w.heap.size, 1, none⟩) (Nat.le_refl _) _)
      | some q =>
        obtain ⟨⟨fD, ft, fx⟩, r'⟩ := q
        have HFb : Hid (FcB ⟨fD, ft, fx⟩) := rdF_bd hrf
        rw [hrf] at h5 HD1
        obtain ⟨fa, fn, fc, L, rfl, hso, hr', h16, hle⟩ := h5
        simp only at hso
        obtain ⟨x, Hx⟩ := hid_ex (⟨.slice fa fn fc, fD, ft, fx⟩ : Fa)
        have HD2 : Hid (gF K (b.drop (1 + N)) = (gF (K - (k + 1)) (b.drop (A + L))).map fun q => (pre ++ [x]).map Fa.p ++ q) := by
          unfold Hid
          rw [HD.out, HD1.out, Hx.out, hr', Hr.out, List.drop_drop]
          simp only [Option.map_map]
          congr 1
          funext q
          simp [Fa.p]
        have hAL : A + L ≤ b.length := by have := Hrl.out; omega
        exfalso
        simp at hd9
        omega
    · have hkK := HKN.out k hk hlt
      have HGt : Hid (g2F b = some (pre.map Fa.p, -1)) := by
        unfold Hid; rw [HG0.out, HD.out, hkK, Nat.sub_self]; simp [gF]
      have HRt : Hid (wr.heap[w.heap.size + 1]? = some (.cells #[.slice av n cv, .int .i64 (-1)] 46)) := HI.out.r
      have HZt : Hid (wr.heap[w.heap.size]? = some (.cells #[.slice none 0 0, .int .i64 0] 46)) := HI.out.z
      have HBt : Hid (Below w.heap.size w wr) := HI.out.b
      have HGt2 : Hid (w.heap.size + 2 ≤ wr.heap.size) := HI.out.g
      have HNt : Hid (FNw (w.heap.size + 2) wr (.slice av n cv) pre) := HI.out.fn
      clear HI HD HML hkK hk
      by_cases hl : (k : Int) < (C : Int)
      · have h17 : ¬ (k : Int) < 17 := fun h => hlt ⟨hl, h⟩
        have hd17 : decide ((k : Int) < 17) = false := decide_eq_false h17
        clear hlt
        have hzt := HGt2.out
        have HMt : Hid (-9223372036854775808 ≤ (-1) ∧ (-1) ≤ 9223372036854775807) := g2_m HGt.out
        have HOk : Hid (RcOk wr ⟨.slice av n cv, pre, (-1)⟩) := ⟨HNt.out wr (fun _ _ _ => rfl), HMt.out.1, HMt.out.2⟩
        have HW : Hid (Calls Tryz.prog 17 #[.agg #[.slice av n cv, .int .i64 (-1)]] wr fun e w' => ∃ v, e = .returned (.tuple #[v, .int .i64 (wrE ⟨.slice av n cv, pre, (-1)⟩)]) ∧ Own w' wr.heap.size v (wrB ⟨.slice av n cv, pre, (-1)⟩) ∧ Below wr.heap.size wr w') := wrefWrite_any ⟨.slice av n cv, pre, (-1)⟩ wr HOk.out
        have HP : Hid ((⟨.slice av n cv, pre, (-1)⟩ : Rc).p = pre.map Fa.p) := rfl
        obtain ⟨E, HE⟩ := hid_ex (wrE ⟨.slice av n cv, pre, (-1)⟩)
        obtain ⟨L, HL⟩ := hid_ex (wrB ⟨.slice av n cv, pre, (-1)⟩)
        rw [← HE.out, ← HL.out] at HW
        have x0 := cl3 HRt.out 0 (by simp)
        have x1 := cl3 HRt.out 1 (by simp)
        simp only [List.getElem_toArray, List.getElem_cons_succ, List.getElem_cons_zero] at x0 x1
        go_wp2_with fail
        refine HW.out.mono ?_
        rintro e w2 ⟨vw, rfl, how, hb2⟩
        have HK2 : Hid (w2.heap[w.heap.size]? = some (.cells #[.slice none 0 0, .int .i64 0] 46)) := (hb2.block w.heap.size (by omega)).trans HZt.out
        have HX2 : Hid (w2.heap[w.heap.size + 1]? = some (.cells #[.slice av n cv, .int .i64 (-1)] 46)) := (hb2.block _ (by omega)).trans HRt.out
        have HB2 : Hid (Below w.heap.size w w2) := HBt.out.trans (hb2.mono (by omega))
        have HB12 : Hid (Below wr.heap.size wr w2) := hb2
        have HOw : Hid (Reads w2 vw L) := how.reads
        obtain ⟨wa, wc, hwv, _⟩ := how.form
        subst hwv
        clear hb2 how HW x0 x1
        have c0 := cl3 HK2.out 0 (by simp)
        have c1 := cl3 HK2.out 1 (by simp)
        have x0 := cl3 HX2.out 0 (by simp)
        have x1 := cl3 HX2.out 1 (by simp)
        have f0 := fz3 HK2.out 0
        have f1 := fz3 HK2.out 1
        simp only [List.getElem_toArray, List.getElem_cons_succ, List.getElem_cons_zero] at c0 c1 x0 x1
        by_cases hr : rightR (pre.map Fa.p) (-1) = true
        · have hE : E = 0 := by rw [HE.out]; unfold wrE; rw [HP.out, if_pos hr]
          have HLr : Hid (L = wrR (pre.map Fa.p) (-1)) := by unfold Hid; rw [HL.out]; unfold wrB; rw [HP.out, if_pos hr]
          have HRr : Hid (rightR (pre.map Fa.p) (-1) = true) := hr
          have q1 := reads_text HOw.out
          have q2 := reads_text (HR.out.below HB2.out)
          subst hE
          clear hr HL HE
          by_cases hU : L = b
          · obtain ⟨r1, r2⟩ := rdx_yes (g2_good HGt.out HRr.out (HLr.out.symm.trans hU))
            have hbe : (L == b) = true := by simp [hU]
            have hbn : (L != b) = false := by simp [hU]
            have HYes : Hid (rdE b = 0 ∧ rdV b = (pre.map Fa.p, (-1))) := ⟨r1, r2⟩
            clear hU r1 r2
            go_wp2_with fail
            have HK3 := set2b HK2.out rfl (.slice av n cv) (.int .i64 (-1))
            refine bodyPost_ret (results_ct rfl _ _ w.heap.size _ rfl (run_loadVar_row _ w.heap.size _ _ _ (0, 0) _ HK3 Tryz.underlying46 rfl (by kernel_rfl))) rfl ?_
            have hok : ∀ B : World, (∀ k, w.heap.size ≤ k → k < ((w2.setCell ⟨w.heap.size, 0, none⟩ (.slice av n cv)).setCell ⟨w.heap.size, 1, none⟩ (.int .i64 (-1))).heap.size → B.heap[k]? = ((w2.setCell ⟨w.heap.size, 0, none⟩ (.slice av n cv)).setCell ⟨w.heap.size, 1, none⟩ (.int .i64 (-1))).heap[k]?) → RcOk B ⟨.slice av n cv, pre, (-1)⟩ := by
              intro B hB
              refine ⟨HNt.out B fun k h1 h2 => ?_, HMt.out.1, HMt.out.2⟩
              rw [hB k (by omega) (by have := HB12.out.size; simp; omega), Go.heap_setCell_other _ _ _ _ (by show k ≠ w.heap.size; omega), Go.heap_setCell_other _ _ _ _ (by show k ≠ w.heap.size; omega), HB12.out.block k h2]
            exact ⟨(HB2.out.setCell (p := ⟨w.heap.size, 0, none⟩) (Nat.le_refl _) _).setCell (p := ⟨w.heap.size, 1, none⟩) (Nat.le_refl _) _, ⟨.slice av n cv, pre, (-1)⟩, by rw [HYes.out.1]; rfl, hok _ (fun _ _ _ => rfl), hok, by rw [HYes.out.2]; exact HP.out, by rw [HYes.out.2]⟩
          · have HNo : Hid (rdR b = none) := g2_bad HGt.out (fun h => hU (HLr.out.trans h.2))
            have hbe : (L == b) = false := by simp [hU]
            have hbn : (L != b) = true := by simp [hU]
            clear hU
            go_wp2_with fail
            have HK3 := set2b HK2.out rfl (.slice none 0 0) (.int .i64 0)
            refine bodyPost_ret (results_ct rfl _ _ w.heap.size _ rfl (run_loadVar_row _ w.heap.size _ _ _ (0, 0) _ HK3 Tryz.underlying46 rfl (by kernel_rfl))) rfl ?_
            exact rdx_no HNo.out ((HB2.out.setCell (p := ⟨w.heap.size, 0, none⟩) (Nat.le_refl _) _).setCell (p := ⟨w.heap.size, 1, none⟩) (Nat.le_refl _) _)
        · have hE : E = 90 := by rw [HE.out]; unfold wrE; rw [HP.out, if_neg hr]
          have HNo : Hid (rdR b = none) := g2_bad HGt.out (fun h => hr h.1)
          subst hE
          clear hr
          go_wp2_with fail
          have HK3 := set2b HK2.out rfl (.slice none 0 0) (.int .i64 0)
          refine bodyPost_ret (results_ct rfl _ _ w.heap.size _ rfl (run_loadVar_row _ w.heap.size _ _ _ (0, 0) _ HK3 Tryz.underlying46 rfl (by kernel_rfl))) rfl ?_
          exact rdx_no HNo.out ((HB2.out.setCell (p := ⟨w.heap.size, 0, none⟩) (Nat.le_refl _) _).setCell (p := ⟨w.heap.size, 1, none⟩) (Nat.le_refl _) _)
      · have hdl : decide ((k : Int) < (C : Int)) = false := decide_eq_false hl
        clear hlt
        have hzt := HGt2.out
        have HMt : Hid (-9223372036854775808 ≤ (-1) ∧ (-1) ≤ 9223372036854775807) := g2_m HGt.out
        have HOk : Hid (RcOk wr ⟨.slice av n cv, pre, (-1)⟩) := ⟨HNt.out wr (fun _ _ _ => rfl), HMt.out.1, HMt.out.2⟩
        have HW : Hid (Calls Tryz.prog 17 #[.agg #[.slice av n cv, .int .i64 (-1)]] wr fun e w' => ∃ v, e = .returned (.tuple #[v, .int .i64 (wrE ⟨.slice av n cv, pre, (-1)⟩)]) ∧ Own w' wr.heap.size v (wrB ⟨.slice av n cv, pre, (-1)⟩) ∧ Below wr.heap.size wr w') := wrefWrite_any ⟨.slice av n cv, pre, (-1)⟩ wr HOk.out
        have HP : Hid ((⟨.slice av n cv, pre, (-1)⟩ : Rc).p = pre.map Fa.p) := rfl
        obtain ⟨E, HE⟩ := hid_ex (wrE ⟨.slice av n cv, pre, (-1)⟩)
        obtain ⟨L, HL⟩ := hid_ex (wrB ⟨.slice av n cv, pre, (-1)⟩)
        rw [← HE.out, ← HL.out] at HW
        have x0 := cl3 HRt.out 0 (by simp)
        have x1 := cl3 HRt.out 1 (by simp)
        simp only [List.getElem_toArray, List.getElem_cons_succ, List.getElem_cons_zero] at x0 x1
        go_wp2_with fail
        refine HW.out.mono ?_
        rintro e w2 ⟨vw, rfl, how, hb2⟩
        have HK2 : Hid (w2.heap[w.heap.size]? = some (.cells #[.slice none 0 0, .int .i64 0] 46)) := (hb2.block w.heap.size (by omega)).trans HZt.out
        have HX2 : Hid (w2.heap[w.heap.size + 1]? = some (.cells #[.slice av n cv, .int .i64 (-1)] 46)) := (hb2.block _ (by omega)).trans HRt.out
        have HB2 : Hid (Below w.heap.size w w2) := HBt.out.trans (hb2.mono (by omega))
        have HB12 : Hid (Below wr.heap.size wr w2) := hb2
        have HOw : Hid (Reads w2 vw L) := how.reads
        obtain ⟨wa, wc, hwv, _⟩ := how.form
        subst hwv
        clear hb2 how HW x0 x1
        have c0 := cl3 HK2.out 0 (by simp)
        have c1 := cl3 HK2.out 1 (by simp)
        have x0 := cl3 HX2.out 0 (by simp)
        have x1 := cl3 HX2.out 1 (by simp)
        have f0 := fz3 HK2.out 0
        have f1 := fz3 HK2.out 1
        simp only [List.getElem_toArray, List.getElem_cons_succ, List.getElem_cons_zero] at c0 c1 x0 x1
        by_cases hr : rightR (pre.map Fa.p) (-1) = true
        · have hE : E = 0 := by rw [HE.out]; unfold wrE; rw [HP.out, if_pos hr]
          have HLr : Hid (L = wrR (pre.map Fa.p) (-1)) := by unfold Hid; rw [HL.out]; unfold wrB; rw [HP.out, if_pos hr]
          have HRr : Hid (rightR (pre.map Fa.p) (-1) = true) := hr
          have q1 := reads_text HOw.out
          have q2 := reads_text (HR.out.below HB2.out)
          subst hE
          clear hr HL HE
          by_cases hU : L = b
          · obtain ⟨r1, r2⟩ := rdx_yes (g2_good HGt.out HRr.out (HLr.out.symm.trans hU))
            have hbe : (L == b) = true := by simp [hU]
            have hbn : (L != b) = false := by simp [hU]
            have HYes : Hid (rdE b = 0 ∧ rdV b = (pre.map Fa.p, (-1))) := ⟨r1, r2⟩
            clear hU r1 r2
            go_wp2_with fail
            have HK3 := set2b HK2.out rfl (.slice av n cv) (.int .i64 (-1))
            refine bodyPost_ret (results_ct rfl _ _ w.heap.size _ rfl (run_loadVar_row _ w.heap.size _ _ _ (0, 0) _ HK3 Tryz.underlying46 rfl (by kernel_rfl))) rfl ?_
            have hok : ∀ B : World, (∀ k, w.heap.size ≤ k → k < ((w2.setCell ⟨w.heap.size, 0, none⟩ (.slice av n cv)).setCell ⟨w.heap.size, 1, none⟩ (.int .i64 (-1))).heap.size → B.heap[k]? = ((w2.setCell ⟨w.heap.size, 0, none⟩ (.slice av n cv)).setCell ⟨w.heap.size, 1, none⟩ (.int .i64 (-1))).heap[k]?) → RcOk B ⟨.slice av n cv, pre, (-1)⟩ := by
              intro B hB
              refine ⟨HNt.out B fun k h1 h2 => ?_, HMt.out.1, HMt.out.2⟩
              rw [hB k (by omega) (by have := HB12.out.size; simp; omega), Go.heap_setCell_other _ _ _ _ (by show k ≠ w.heap.size; omega), Go.heap_setCell_other _ _ _ _ (by show k ≠ w.heap.size; omega), HB12.out.block k h2]
            exact ⟨(HB2.out.setCell (p := ⟨w.heap.size, 0, none⟩) (Nat.le_refl _) _).setCell (p := ⟨w.heap.size, 1, none⟩) (Nat.le_refl _) _, ⟨.slice av n cv, pre, (-1)⟩, by rw [HYes.out.1]; rfl, hok _ (fun _ _ _ => rfl), hok, by rw [HYes.out.2]; exact HP.out, by rw [HYes.out.2]⟩
          · have HNo : Hid (rdR b = none) := g2_bad HGt.out (fun h => hU (HLr.out.trans h.2))
            have hbe : (L == b) = false := by simp [hU]
            have hbn : (L != b) = true := by simp [hU]
            clear hU
            go_wp2_with fail
            have HK3 := set2b HK2.out rfl (.slice none 0 0) (.int .i64 0)
            refine bodyPost_ret (results_ct rfl _ _ w.heap.size _ rfl (run_loadVar_row _ w.heap.size _ _ _ (0, 0) _ HK3 Tryz.underlying46 rfl (by kernel_rfl))) rfl ?_
            exact rdx_no HNo.out ((HB2.out.setCell (p := ⟨w.heap.size, 0, none⟩) (Nat.le_refl _) _).setCell (p := ⟨w.heap.size, 1, none⟩) (Nat.le_refl _) _)
        · have hE : E = 90 := by rw [HE.out]; unfold wrE; rw [HP.out, if_neg hr]
          have HNo : Hid (rdR b = none) := g2_bad HGt.out (fun h => hr h.1)
          subst hE
          clear hr
          go_wp2_with fail
          have HK3 := set2b HK2.out rfl (.slice none 0 0) (.int .i64 0)
          refine bodyPost_ret (results_ct rfl _ _ w.heap.size _ rfl (run_loadVar_row _ w.heap.size _ _ _ (0, 0) _ HK3 Tryz.underlying46 rfl (by kernel_rfl))) rfl ?_
          exact rdx_no HNo.out ((HB2.out.setCell (p := ⟨w.heap.size, 0, none⟩) (Nat.le_refl _) _).setCell (p := ⟨w.heap.size, 1, none⟩) (Nat.le_refl _) _)
set_option maxRecDepth 100000 in
set_option maxHeartbeats 4000000 in
theorem wrefRead_Bn {w : World} (b : List UInt8) (hbl : b.length ≤ 5000) (hlen : 1 < b.length) (bb off cap : Nat) (hbw : bb < w.heap.size) (hc : b[0]? = some 1) (hcell : w.cell? ⟨bb, off, none⟩ = some (bc 1)) (h9 : ¬ b.length = 9) (hR : Reads w (.slice (some ⟨bb, off, none⟩) b.length cap) b) : Calls Tryz.prog 54 #[.slice (some ⟨bb, off, none⟩) b.length cap] w (RdW w b) := by
  have HR : Hid (Reads w (.slice (some ⟨bb, off, none⟩) b.length cap) b) := hR
  have HI0 : Hid (IRd w (.slice none 0 0) [] ((w.alloc (.cells #[.slice none 0 0, .int .i64 0] 46)).alloc (.cells #[.slice none 0 0, .int .i64 (-1)] 46))) := ird0 w
  clear hR
  have hd9 : ¬ (b.length : Int) = 9 := by omega
  have hl1 : (1 : Int) < (b.length : Int) := by omega
  have c0 : ((w.alloc (.cells #[.slice none 0 0, .int .i64 0] 46)).alloc (.cells #[.slice none 0 0, .int .i64 (-1)] 46)).cell? ⟨bb, off, none⟩ = some (.int .u8 1) := (HI0.out.b.cell (p := ⟨bb, off, none⟩) hbw).trans hcell
  obtain ⟨i0, hi, hz0, hz1, hz2⟩ := info_parts infoFa2
  obtain ⟨a1, c1, hsl1, hrd1⟩ := sl_from HR.out (c := 1) (by omega)
  have hsl2 : ∀ w', (Instr.slice 28 (.slice (some ⟨bb, off, none⟩) b.length cap) (some (.int .i64 1)) none none).run Tryz.prog w' = .ok (.slice a1 (b.length - 1) c1) w' := hsl1
  obtain ⟨C, HC⟩ := hid_ex (rsF (b.drop 1) 0 0).1
  obtain ⟨N, HN⟩ := hid_ex (rsF (b.drop 1) 0 0).2.1
  obtain ⟨E0, HE0⟩ := hid_ex (rsF (b.drop 1) 0 0).2.2
  have HRS : Hid (Calls Tryz.prog 83 #[.slice a1 (b.length - 1) c1] ((w.alloc (.cells #[.slice none 0 0, .int .i64 0] 46)).alloc (.cells #[.slice none 0 0, .int .i64 (-1)] 46)) fun e w' => e = .returned (.tuple #[.int .u64 (C : Int), .int .i64 (N : Int), .int .i64 E0]) ∧ Below ((w.alloc (.cells #[.slice none 0 0, .int .i64 0] 46)).alloc (.cells #[.slice none 0 0, .int .i64 (-1)] 46)).heap.size ((w.alloc (.cells #[.slice none 0 0, .int .i64 0] 46)).alloc (.cells #[.slice none 0 0, .int .i64 (-1)] 46)) w') := by
    have := refReadShort_any _ (b.drop 1) _ (hrd1.below HI0.out.b)
    rw [← HC.out, ← HN.out, ← HE0.out] at this
    exact this
  obtain ⟨K, HK⟩ := hid_ex (min C 17)
  have HG0 : Hid (g2F b = (gF K (b.drop (1 + N))).map fun fs => (fs, -1)) := by
    have hA : ¬ isA b := fun h => by have := h.2; rw [hc] at this; simp at this
    have hB : isB b := ⟨hlen, hc⟩
    unfold Hid g2F
    rw [if_neg hA, if_pos hB, HK.out, HN.out, HC.out]
    rfl
  have HNl : Hid (1 + N ≤ b.length) := by
    have hdl : (b.drop 1).length = b.length - 1 := by simp
    unfold Hid
    rw [HN.out]
    by_cases e : (rsF (b.drop 1) 0 0).2.2 = 0
    · obtain ⟨u, q, h1, _, h3, _⟩ := rsF_ok (b.drop 1) 0 0 (rsF (b.drop 1) 0 0).1 (rsF (b.drop 1) 0 0).2.1 (by rw [← e]) (by omega) (by simp)
      omega
    · rw [(rsF_bad (b.drop 1) 0 0 e).2]; omega
  have hNl := HNl.out
  have hK17 : K ≤ 17 := by rw [HK.out]; omega
  have hKC : ∀ k : Nat, (k : Int) < (C : Int) → (k : Int) < 17 → k < K := by intro k h1 h2; rw [HK.out]; omega
  have HKN : Hid (∀ k : Nat, k ≤ K → ¬ ((k : Int) < (C : Int) ∧ (k : Int) < 17) → k = K) := by intro k h0 h2; rw [HK.out] at h0 ⊢; omega
  have HKC : Hid (∀ k : Nat, (k : Int) < (C : Int) → (k : Int) < 17 → k < K) := hKC
  clear h9 hsl1 hrd1 HC HN HE0 hc HK hKC
  go_enter Tryz.func54, Tryz.ntmps54
  go_wp2_with fail
  refine HRS.out.mono ?_
  rintro e w1 ⟨rfl, hb1⟩
  have HI1 : Hid (IRd w (.slice none 0 0) [] w1) := HI0.out.below hb1
  clear hb1 HRS c0 hsl2 HI0
  go_wp2_with fail
  go_loopw [8, 9] (fun av i wr => ∃ (k A : Nat) (pre : List Fa) (ad : Option Addr) (n cd : Nat), k ≤ K ∧ A ≤ b.length ∧ av = .int .i64 (A : Int) ∧ i = .int .u64 (k : Int) ∧ Hid (pre.length = k) ∧ Hid (gF K (b.drop (1 + N)) = (gF (K - k) (b.drop A)).map fun q => pre.map Fa.p ++ q) ∧ Hid (IRd w (.slice ad n cd) pre wr)) (fun _ i _ => 17 - (intOf i).toNat)
  case atStart =>
    refine ⟨0, 1 + N, [], none, 0, 0, by omega, hNl, by go_num, rfl, rfl, ?_, HI1⟩
    simp [Hid]
  case round =>
    obtain ⟨k, A, pre, av, n, cv, hk, hA, rfl, rfl, HML, HD, HI⟩ := hrel
    by_cases hlt : (k : Int) < (C : Int) ∧ (k : Int) < 17
    · obtain ⟨hl, h17⟩ := hlt
      have hkK := HKC.out k hl h17
      obtain ⟨ar, cr, hsl, hrd⟩ := sl_from HR.out hA
      obtain ⟨r, Hr⟩ := hid_ex (b.drop A)
      have hrl : r.length ≤ 10000 := by rw [Hr.out]; simp; omega
      have Hrl : Hid (r.length = b.length - A) := by unfold Hid; rw [Hr.out]; simp
      rw [← Hr.out] at HD hrd
      have HFt : Hid (Calls Tryz.prog 84 #[.slice ar (b.length - A) cr] wr (FrPost wr r)) := wrefFact_any _ r hrl wr (hrd.below HI.out.b)
      have HD1 : Hid (gF (K - k) r = match rdF r with
          | none => none
          | some (f, r') => (gF (K - (k + 1)) r').map (f :: ·)) := by
        unfold Hid; rw [show K - k = (K - (k + 1)) + 1 by omega, gF]; cases rdF r <;> rfl
      clear hrd hrl
      go_wp2_with fail
      refine HFt.out.mono ?_
      rintro e w5 h5
      unfold FrPost at h5
      obtain ⟨hb5, h5⟩ := h5
      have HI5 : Hid (IRd w (.slice av n cv) pre w5) := HI.out.below hb5
      have hsz5 := hb5.size
      have hIg := HI.out.g
      cases hrf : rdF r with
      | none =>
        rw [hrf] at h5 HD1
        obtain ⟨fa, fn, fc, ft, fx, rfl⟩ := h5
        have HNo : Hid (rdR b = none) := g2_none (by rw [HG0.out, HD.out, HD1.out]; rfl)
        have HI6 : Hid (IRd w (.slice av n cv) pre (w5.alloc (.cells #[.slice fa fn fc, .int .i64 ft, .int .i64 fx] 90))) := HI5.out.below ((Below.refl _ _).alloc (Nat.le_refl _) _)
        have c0 := cl3 HI6.out.z 0 (by simp)
        have c1 := cl3 HI6.out.z 1 (by simp)
        have f0 := fz3 HI6.out.z 0
        have f1 := fz3 HI6.out.z 1
        simp only [List.getElem_toArray, List.getElem_cons_succ, List.getElem_cons_zero] at c0 c1
        clear hb5 HI HFt hsl hrf HD1 HD
        go_wp2_with fail
        have HK3 := set2b HI6.out.z rfl (.slice none 0 0) (.int .i64 0)
        refine bodyPost_ret (results_ct rfl _ _ w.heap.size _ rfl (run_loadVar_row _ w.heap.size _ _ _ (0, 0) _ HK3 Tryz.underlying46 rfl (by kernel_rfl))) rfl ?_
        exact rdx_no HNo.out ((HI6.out.b.setCell (p := ⟨w.heap.size, 0, none⟩) (Nat.le_refl _) _).setCell (p := ⟨w.heap.size, 1, none⟩) (Nat.le_refl _) _)
      | some q =>
        obtain ⟨⟨fD, ft, fx⟩, r'⟩ := q
        have HFb : Hid (FcB ⟨fD, ft, fx⟩) := rdF_bd hrf
        rw [hrf] at h5 HD1
        obtain ⟨fa, fn, fc, L, rfl, hso, hr', h16, hle⟩ := h5
        simp only at hso
        obtain ⟨x, Hx⟩ := hid_ex (⟨.slice fa fn fc, fD, ft, fx⟩ : Fa)
        have HD2 : Hid (gF K (b.drop (1 + N)) = (gF (K - (k + 1)) (b.drop (A + L))).map fun q => (pre ++ [x]).map Fa.p ++ q) := by
          unfold Hid
          rw [HD.out, HD1.out, Hx.out, hr', Hr.out, List.drop_drop]
          simp only [Option.map_map]
          congr 1
          funext q
          simp [Fa.p]
        have hAL : A + L ≤ b.length := by have := Hrl.out; omega
        have hL0 : ¬ (L : Int) = 0 := by omega
        have HML2 : Hid ((pre ++ [x]).length = k + 1) := by unfold Hid; rw [List.length_append, HML.out]; rfl
        have hpl : pre.length ≤ 17 := by have := HML.out; omega
        have HI6 : Hid (IRd w (.slice av n cv) pre (w5.alloc (.cells #[.slice fa fn fc, .int .i64 ft, .int .i64 fx] 90))) := HI5.out.below ((Below.refl _ _).alloc (Nat.le_refl _) _)
        have HSO : Hid (SOwn (w5.alloc (.cells #[.slice fa fn fc, .int .i64 ft, .int .i64 fx] 90)) (w.heap.size + 2) (.slice fa fn fc) fD) := SOwn.below (row_mono2 hso (by omega)) ((Below.refl _ _).alloc (Nat.le_refl _) _)
        have HSt : Hid (∀ (w7 : World) (vq : Value), w7.ownsRow (w.heap.size + 2) 90 3 vq (pre.length + 1) (pre.flatMap c3 ++ [.slice fa fn fc, .int .i64 ft, .int .i64 fx]) → ((w5.alloc (.cells #[.slice fa fn fc, .int .i64 ft, .int .i64 fx] 90)).alloc (.cells #[.slice fa fn fc, .int .i64 ft, .int .i64 fx] 90)).grownBy w7 (Value.slice av n cv).ownBlock → IRd w vq (pre ++ [x]) (w7.setCell ⟨w.heap.size + 1, 0, none⟩ vq)) := by
          intro w7 vq h1 h2
          rw [Hx.out]
          exact HI6.out.step HSO.out ⟨HFb.out.1, HFb.out.2.1, HFb.out.2.2.1, HFb.out.2.2.2⟩ h1 h2
        have HRw : Hid (((w5.alloc (.cells #[.slice fa fn fc, .int .i64 ft, .int .i64 fx] 90)).alloc (.cells #[.slice fa fn fc, .int .i64 ft, .int .i64 fx] 90)).ownsRow (w.heap.size + 2) 90 3 (.slice av n cv) pre.length (pre.flatMap c3)) := World.ownsRow.alloc HI6.out.o _
        have Hnw : Hid (∀ j u, [Value.slice fa fn fc, .int .i64 ft, .int .i64 fx][j]? = some u → ((w5.alloc (.cells #[.slice fa fn fc, .int .i64 ft, .int .i64 fx] 90)).alloc (.cells #[.slice fa fn fc, .int .i64 ft, .int .i64 fx] 90)).cell? ((⟨w5.heap.size + 1, 0, none⟩ : Addr).add j) = some u) := by
          have e : (w5.alloc (.cells #[.slice fa fn fc, .int .i64 ft, .int .i64 fx] 90)).heap.size = w5.heap.size + 1 := by simp
          rw [← e]
          exact news3
        have c0 := cl3 HI6.out.r 0 (by simp)
        simp only [List.getElem_toArray, List.getElem_cons_zero] at c0
        have hg6 := HI6.out.g
        clear hb5 HI HFt hsl hrf HD1 HD Hx hso hr' Hr
        go_wp2_with (at_builtin; refine stopL ?_)
        refine Stop.of ?_
        refine (wpList_append_own _ rfl _ _ 41 rfl (w.heap.size + 2) 90 i0 _ 3 40 Tryz.underlying41 hi hz0 hz1 hz2 rfl (by decide) _ _ _ rfl HRw.out ⟨w5.heap.size + 1, 0, none⟩ 1 1 [.slice fa fn fc, .int .i64 ft, .int .i64 fx] rfl rfl Hnw.out (by simp [Value.oneCell']) (by unfold maxLen; omega) (by omega) (by simp; omega) ?_)
        intro vq w7 hown' hgrow _
        have hp7 : Hid _ := HSt.out w7 vq hown' hgrow
        have hr7 := HI6.out.r4 hgrow
        obtain ⟨g', cap', rfl⟩ := ownsRow_succ hown'
        have q0 := cl3 hr7 0 (by simp)
        have q1 := fz3 hr7 0
        simp only [List.getElem_toArray, List.getElem_cons_zero] at q0
        clear hown' hgrow HSt HRw HI6 HI5
        go_wp2_with fail
        go_roundw
        case rel => exact ⟨k + 1, A + L, pre ++ [x], _, _, _, by omega, hAL, by go_num, by go_num, HML2, HD2, hp7⟩
        case measure => simp [intOf]; omega
    · have hkK := HKN.out k hk hlt
      have HGt : Hid (g2F b = some (pre.map Fa.p, -1)) := by
        unfold Hid; rw [HG0.out, HD.out, hkK, Nat.sub_self]; simp [gF]
      have HRt : Hid (wr.heap[w.heap.size + 1]? = some (.cells #[.slice av n cv, .int .i64 (-1)] 46)) := HI.out.r
      have HZt : Hid (wr.heap[w.heap.size]? = some (.cells #[.slice none 0 0, .int .i64 0] 46)) := HI.out.z
      have HBt : Hid (Below w.heap.size w wr) := HI.out.b
      have HGt2 : Hid (w.heap.size + 2 ≤ wr.heap.size) := HI.out.g
      have HNt : Hid (FNw (w.heap.size + 2) wr (.slice av n cv) pre) := HI.out.fn
      clear HI HD HML hkK hk
      by_cases hl : (k : Int) < (C : Int)
      · have h17 : ¬ (k : Int) < 17 := fun h => hlt ⟨hl, h⟩
        have hd17 : decide ((k : Int) < 17) = false := decide_eq_false h17
        clear hlt
        have hzt := HGt2.out
        have HMt : Hid (-9223372036854775808 ≤ (-1) ∧ (-1) ≤ 9223372036854775807) := g2_m HGt.out
        have HOk : Hid (RcOk wr ⟨.slice av n cv, pre, (-1)⟩) := ⟨HNt.out wr (fun _ _ _ => rfl), HMt.out.1, HMt.out.2⟩
        have HW : Hid (Calls Tryz.prog 17 #[.agg #[.slice av n cv, .int .i64 (-1)]] wr fun e w' => ∃ v, e = .returned (.tuple #[v, .int .i64 (wrE ⟨.slice av n cv, pre, (-1)⟩)]) ∧ Own w' wr.heap.size v (wrB ⟨.slice av n cv, pre, (-1)⟩) ∧ Below wr.heap.size wr w') := wrefWrite_any ⟨.slice av n cv, pre, (-1)⟩ wr HOk.out
        have HP : Hid ((⟨.slice av n cv, pre, (-1)⟩ : Rc).p = pre.map Fa.p) := rfl
        obtain ⟨E, HE⟩ := hid_ex (wrE ⟨.slice av n cv, pre, (-1)⟩)
        obtain ⟨L, HL⟩ := hid_ex (wrB ⟨.slice av n cv, pre, (-1)⟩)
        rw [← HE.out, ← HL.out] at HW
        have x0 := cl3 HRt.out 0 (by simp)
        have x1 := cl3 HRt.out 1 (by simp)
        simp only [List.getElem_toArray, List.getElem_cons_succ, List.getElem_cons_zero] at x0 x1
        go_wp2_with fail
        refine HW.out.mono ?_
        rintro e w2 ⟨vw, rfl, how, hb2⟩
        have HK2 : Hid (w2.heap[w.heap.size]? = some (.cells #[.slice none 0 0, .int .i64 0] 46)) := (hb2.block w.heap.size (by omega)).trans HZt.out
        have HX2 : Hid (w2.heap[w.heap.size + 1]? = some (.cells #[.slice av n cv, .int .i64 (-1)] 46)) := (hb2.block _ (by omega)).trans HRt.out
        have HB2 : Hid (Below w.heap.size w w2) := HBt.out.trans (hb2.mono (by omega))
        have HB12 : Hid (Below wr.heap.size wr w2) := hb2
        have HOw : Hid (Reads w2 vw L) := how.reads
        obtain ⟨wa, wc, hwv, _⟩ := how.form
        subst hwv
        clear hb2 how HW x0 x1
        have c0 := cl3 HK2.out 0 (by simp)
        have c1 := cl3 HK2.out 1 (by simp)
        have x0 := cl3 HX2.out 0 (by simp)
        have x1 := cl3 HX2.out 1 (by simp)
        have f0 := fz3 HK2.out 0
        have f1 := fz3 HK2.out 1
        simp only [List.getElem_toArray, List.getElem_cons_succ, List.getElem_cons_zero] at c0 c1 x0 x1
        by_cases hr : rightR (pre.map Fa.p) (-1) = true
        · have hE : E = 0 := by rw [HE.out]; unfold wrE; rw [HP.out, if_pos hr]
          have HLr : Hid (L = wrR (pre.map Fa.p) (-1)) := by unfold Hid; rw [HL.out]; unfold wrB; rw [HP.out, if_pos hr]
          have HRr : Hid (rightR (pre.map Fa.p) (-1) = true) := hr
          have q1 := reads_text HOw.out
          have q2 := reads_text (HR.out.below HB2.out)
          subst hE
          clear hr HL HE
          by_cases hU : L = b
          · obtain ⟨r1, r2⟩ := rdx_yes (g2_good HGt.out HRr.out (HLr.out.symm.trans hU))
            have hbe : (L == b) = true := by simp [hU]
            have hbn : (L != b) = false := by simp [hU]
            have HYes : Hid (rdE b = 0 ∧ rdV b = (pre.map Fa.p, (-1))) := ⟨r1, r2⟩
            clear hU r1 r2
            go_wp2_with fail
            have HK3 := set2b HK2.out rfl (.slice av n cv) (.int .i64 (-1))
            refine bodyPost_ret (results_ct rfl _ _ w.heap.size _ rfl (run_loadVar_row _ w.heap.size _ _ _ (0, 0) _ HK3 Tryz.underlying46 rfl (by kernel_rfl))) rfl ?_
            have hok : ∀ B : World, (∀ k, w.heap.size ≤ k → k < ((w2.setCell ⟨w.heap.size, 0, none⟩ (.slice av n cv)).setCell ⟨w.heap.size, 1, none⟩ (.int .i64 (-1))).heap.size → B.heap[k]? = ((w2.setCell ⟨w.heap.size, 0, none⟩ (.slice av n cv)).setCell ⟨w.heap.size, 1, none⟩ (.int .i64 (-1))).heap[k]?) → RcOk B ⟨.slice av n cv, pre, (-1)⟩ := by
              intro B hB
              refine ⟨HNt.out B fun k h1 h2 => ?_, HMt.out.1, HMt.out.2⟩
              rw [hB k (by omega) (by have := HB12.out.size; simp; omega), Go.heap_setCell_other _ _ _ _ (by show k ≠ w.heap.size; omega), Go.heap_setCell_other _ _ _ _ (by show k ≠ w.heap.size; omega), HB12.out.block k h2]
            exact ⟨(HB2.out.setCell (p := ⟨w.heap.size, 0, none⟩) (Nat.le_refl _) _).setCell (p := ⟨w.heap.size, 1, none⟩) (Nat.le_refl _) _, ⟨.slice av n cv, pre, (-1)⟩, by rw [HYes.out.1]; rfl, hok _ (fun _ _ _ => rfl), hok, by rw [HYes.out.2]; exact HP.out, by rw [HYes.out.2]⟩
          · have HNo : Hid (rdR b = none) := g2_bad HGt.out (fun h => hU (HLr.out.trans h.2))
            have hbe : (L == b) = false := by simp [hU]
            have hbn : (L != b) = true := by simp [hU]
            clear hU
            go_wp2_with fail
            have HK3 := set2b HK2.out rfl (.slice none 0 0) (.int .i64 0)
            refine bodyPost_ret (results_ct rfl _ _ w.heap.size _ rfl (run_loadVar_row _ w.heap.size _ _ _ (0, 0) _ HK3 Tryz.underlying46 rfl (by kernel_rfl))) rfl ?_
            exact rdx_no HNo.out ((HB2.out.setCell (p := ⟨w.heap.size, 0, none⟩) (Nat.le_refl _) _).setCell (p := ⟨w.heap.size, 1, none⟩) (Nat.le_refl _) _)
        · have hE : E = 90 := by rw [HE.out]; unfold wrE; rw [HP.out, if_neg hr]
          have HNo : Hid (rdR b = none) := g2_bad HGt.out (fun h => hr h.1)
          subst hE
          clear hr
          go_wp2_with fail
          have HK3 := set2b HK2.out rfl (.slice none 0 0) (.int .i64 0)
          refine bodyPost_ret (results_ct rfl _ _ w.heap.size _ rfl (run_loadVar_row _ w.heap.size _ _ _ (0, 0) _ HK3 Tryz.underlying46 rfl (by kernel_rfl))) rfl ?_
          exact rdx_no HNo.out ((HB2.out.setCell (p := ⟨w.heap.size, 0, none⟩) (Nat.le_refl _) _).setCell (p := ⟨w.heap.size, 1, none⟩) (Nat.le_refl _) _)
      · have hdl : decide ((k : Int) < (C : Int)) = false := decide_eq_false hl
        clear hlt
        have hzt := HGt2.out
        have HMt : Hid (-9223372036854775808 ≤ (-1) ∧ (-1) ≤ 9223372036854775807) := g2_m HGt.out
        have HOk : Hid (RcOk wr ⟨.slice av n cv, pre, (-1)⟩) := ⟨HNt.out wr (fun _ _ _ => rfl), HMt.out.1, HMt.out.2⟩
        have HW : Hid (Calls Tryz.prog 17 #[.agg #[.slice av n cv, .int .i64 (-1)]] wr fun e w' => ∃ v, e = .returned (.tuple #[v, .int .i64 (wrE ⟨.slice av n cv, pre, (-1)⟩)]) ∧ Own w' wr.heap.size v (wrB ⟨.slice av n cv, pre, (-1)⟩) ∧ Below wr.heap.size wr w') := wrefWrite_any ⟨.slice av n cv, pre, (-1)⟩ wr HOk.out
        have HP : Hid ((⟨.slice av n cv, pre, (-1)⟩ : Rc).p = pre.map Fa.p) := rfl
        obtain ⟨E, HE⟩ := hid_ex (wrE ⟨.slice av n cv, pre, (-1)⟩)
        obtain ⟨L, HL⟩ := hid_ex (wrB ⟨.slice av n cv, pre, (-1)⟩)
        rw [← HE.out, ← HL.out] at HW
        have x0 := cl3 HRt.out 0 (by simp)
        have x1 := cl3 HRt.out 1 (by simp)
        simp only [List.getElem_toArray, List.getElem_cons_succ, List.getElem_cons_zero] at x0 x1
        go_wp2_with fail
        refine HW.out.mono ?_
        rintro e w2 ⟨vw, rfl, how, hb2⟩
        have HK2 : Hid (w2.heap[w.heap.size]? = some (.cells #[.slice none 0 0, .int .i64 0] 46)) := (hb2.block w.heap.size (by omega)).trans HZt.out
        have HX2 : Hid (w2.heap[w.heap.size + 1]? = some (.cells #[.slice av n cv, .int .i64 (-1)] 46)) := (hb2.block _ (by omega)).trans HRt.out
        have HB2 : Hid (Below w.heap.size w w2) := HBt.out.trans (hb2.mono (by omega))
        have HB12 : Hid (Below wr.heap.size wr w2) := hb2
        have HOw : Hid (Reads w2 vw L) := how.reads
        obtain ⟨wa, wc, hwv, _⟩ := how.form
        subst hwv
        clear hb2 how HW x0 x1
        have c0 := cl3 HK2.out 0 (by simp)
        have c1 := cl3 HK2.out 1 (by simp)
        have x0 := cl3 HX2.out 0 (by simp)
        have x1 := cl3 HX2.out 1 (by simp)
        have f0 := fz3 HK2.out 0
        have f1 := fz3 HK2.out 1
        simp only [List.getElem_toArray, List.getElem_cons_succ, List.getElem_cons_zero] at c0 c1 x0 x1
        by_cases hr : rightR (pre.map Fa.p) (-1) = true
        · have hE : E = 0 := by rw [HE.out]; unfold wrE; rw [HP.out, if_pos hr]
          have HLr : Hid (L = wrR (pre.map Fa.p) (-1)) := by unfold Hid; rw [HL.out]; unfold wrB; rw [HP.out, if_pos hr]
          have HRr : Hid (rightR (pre.map Fa.p) (-1) = true) := hr
          have q1 := reads_text HOw.out
          have q2 := reads_text (HR.out.below HB2.out)
          subst hE
          clear hr HL HE
          by_cases hU : L = b
          · obtain ⟨r1, r2⟩ := rdx_yes (g2_good HGt.out HRr.out (HLr.out.symm.trans hU))
            have hbe : (L == b) = true := by simp [hU]
            have hbn : (L != b) = false := by simp [hU]
            have HYes : Hid (rdE b = 0 ∧ rdV b = (pre.map Fa.p, (-1))) := ⟨r1, r2⟩
            clear hU r1 r2
            go_wp2_with fail
            have HK3 := set2b HK2.out rfl (.slice av n cv) (.int .i64 (-1))
            refine bodyPost_ret (results_ct rfl _ _ w.heap.size _ rfl (run_loadVar_row _ w.heap.size _ _ _ (0, 0) _ HK3 Tryz.underlying46 rfl (by kernel_rfl))) rfl ?_
            have hok : ∀ B : World, (∀ k, w.heap.size ≤ k → k < ((w2.setCell ⟨w.heap.size, 0, none⟩ (.slice av n cv)).setCell ⟨w.heap.size, 1, none⟩ (.int .i64 (-1))).heap.size → B.heap[k]? = ((w2.setCell ⟨w.heap.size, 0, none⟩ (.slice av n cv)).setCell ⟨w.heap.size, 1, none⟩ (.int .i64 (-1))).heap[k]?) → RcOk B ⟨.slice av n cv, pre, (-1)⟩ := by
              intro B hB
              refine ⟨HNt.out B fun k h1 h2 => ?_, HMt.out.1, HMt.out.2⟩
              rw [hB k (by omega) (by have := HB12.out.size; simp; omega), Go.heap_setCell_other _ _ _ _ (by show k ≠ w.heap.size; omega), Go.heap_setCell_other _ _ _ _ (by show k ≠ w.heap.size; omega), HB12.out.block k h2]
            exact ⟨(HB2.out.setCell (p := ⟨w.heap.size, 0, none⟩) (Nat.le_refl _) _).setCell (p := ⟨w.heap.size, 1, none⟩) (Nat.le_refl _) _, ⟨.slice av n cv, pre, (-1)⟩, by rw [HYes.out.1]; rfl, hok _ (fun _ _ _ => rfl), hok, by rw [HYes.out.2]; exact HP.out, by rw [HYes.out.2]⟩
          · have HNo : Hid (rdR b = none) := g2_bad HGt.out (fun h => hU (HLr.out.trans h.2))
            have hbe : (L == b) = false := by simp [hU]
            have hbn : (L != b) = true := by simp [hU]
            clear hU
            go_wp2_with fail
            have HK3 := set2b HK2.out rfl (.slice none 0 0) (.int .i64 0)
            refine bodyPost_ret (results_ct rfl _ _ w.heap.size _ rfl (run_loadVar_row _ w.heap.size _ _ _ (0, 0) _ HK3 Tryz.underlying46 rfl (by kernel_rfl))) rfl ?_
            exact rdx_no HNo.out ((HB2.out.setCell (p := ⟨w.heap.size, 0, none⟩) (Nat.le_refl _) _).setCell (p := ⟨w.heap.size, 1, none⟩) (Nat.le_refl _) _)
        · have hE : E = 90 := by rw [HE.out]; unfold wrE; rw [HP.out, if_neg hr]
          have HNo : Hid (rdR b = none) := g2_bad HGt.out (fun h => hr h.1)
          subst hE
          clear hr
          go_wp2_with fail
          have HK3 := set2b HK2.out rfl (.slice none 0 0) (.int .i64 0)
          refine bodyPost_ret (results_ct rfl _ _ w.heap.size _ rfl (run_loadVar_row _ w.heap.size _ _ _ (0, 0) _ HK3 Tryz.underlying46 rfl (by kernel_rfl))) rfl ?_
          exact rdx_no HNo.out ((HB2.out.setCell (p := ⟨w.heap.size, 0, none⟩) (Nat.le_refl _) _).setCell (p := ⟨w.heap.size, 1, none⟩) (Nat.le_refl _) _)
theorem wrefRead_any (v : Value) (b : List UInt8) (hbl : b.length ≤ 5000) (w : World) (hR : Reads w v b) : Calls Tryz.prog 54 #[v] w (RdW w b) := by
  obtain ⟨a, cap, rfl, _⟩ := hR.form
  by_cases h1 : b.length ≤ 1
  · exact wrefRead_C1 b h1 a cap w hR
  · rcases hR with ⟨h0, _⟩ | ⟨bb, off, cap', e, h2, h3, h4, h5, h6⟩
    · subst h0; simp at h1
    · cases e
      have hR' : Reads w (.slice (some ⟨bb, off, none⟩) b.length cap) b := .inr ⟨bb, off, cap, rfl, h2, h3, h4, h5, h6⟩
      have hcell := h6 0 h2
      have hc : b[0]? = some b[0] := List.getElem?_eq_getElem h2
      rw [Nat.add_zero] at hcell
      generalize b[0] = c at *
      by_cases c1 : c = 1
      · subst c1
        by_cases h9 : b.length = 9
        · exact wrefRead_B9 b hbl (by omega) bb off cap h5 hc hcell h9 hR'
        · exact wrefRead_Bn b hbl (by omega) bb off cap h5 hc hcell h9 hR'
      · by_cases h9 : b.length = 9
        · by_cases c2 : c = 2
          · exact wrefRead_A b hbl (by omega) bb off cap h5 c hc hcell c2 h9 hR'
          · exact wrefRead_C9 b hbl (by omega) bb off cap h5 c hc hcell c2 c1 h9 hR'
        · exact wrefRead_Cn b hbl (by omega) bb off cap h5 c hc hcell c1 h9 hR'
end Go.Proofs.YtahigmjpeicemaaGreatDoor
