/- WR5 F1 FX FW, joined. -/
import Derived.Test.YtahigmjpeicemaaDoorWG9
import Derived.Test.YtahigmjpeicemaaDoorWG10
import Derived.Test.YtahigmjpeicemaaDoorWG12
import Derived.Test.YtahigmjpeicemaaDoorRows
import Derived.RangeFuncLeaves
import Derived.RangeFuncOwn
import Derived.RangeFuncSeq
import Derived.RangeFuncIn
import Derived.RangeFuncRecord
import Derived.Below
/- The reference's fact: one at a text's front. -/
namespace Go.Proofs.YtahigmjpeicemaaDoor
open Go.RowKit Go.Shelf

/-- What the reference's fact tells. -/
def FrPost (w : World) (b : List UInt8) (e : Ending) (w' : World) : Prop := Below w.heap.size w w' ∧ match rdF b with
  | none => ∃ a n c t x, e = .returned (.tuple #[.agg #[.slice a n c, .int .i64 t, .int .i64 x], .int .i64 0])
  | some (f, r) => ∃ a n c at', e = .returned (.tuple #[.agg #[.slice a n c, .int .i64 f.t, .int .i64 f.x], .int .i64 (at' : Nat)]) ∧ SOwn w' (w.heap.size + 2) (.slice a n c) f.D ∧ r = b.drop at' ∧ 16 ≤ at' ∧ at' ≤ b.length
theorem FrPost.no {w : World} {b : List UInt8} {w' : World} (h : rdF b = none) (hb : Below w.heap.size w w') (a : Option Addr) (n c : Nat) (t x : Int) : FrPost w b (.returned (.tuple #[.agg #[.slice a n c, .int .i64 t, .int .i64 x], .int .i64 0])) w' := by
  unfold FrPost; rw [h]; exact ⟨hb, a, n, c, t, x, rfl⟩
theorem FrPost.yes {w : World} {b : List UInt8} {w' : World} {D : List ByteArray} {t x : Int} {r : List UInt8} {a : Option Addr} {n c at' : Nat} (h : rdF b = some (⟨D, t, x⟩, r)) (hb : Below w.heap.size w w') (h1 : SOwn w' (w.heap.size + 2) (.slice a n c) D) (h2 : r = b.drop at') (h3 : 16 ≤ at') (h4 : at' ≤ b.length) : FrPost w b (.returned (.tuple #[.agg #[.slice a n c, .int .i64 t, .int .i64 x], .int .i64 (at' : Nat)])) w' := by
  unfold FrPost; rw [h]; exact ⟨hb, a, n, c, at', rfl, h1, h2, h3, h4⟩
theorem results_ct {fn : Func} {p u : Tmp} {ty : TypeId} (h : fn.results = #[.cell p ty, .tmp u]) (tmps : Array Value) (w : World) (g : Nat) (cs : Array Value)
    (hp : tmps.getD p undef = .pointer (some ⟨g, 0, none⟩)) (hl : (loadVar ty ⟨g, 0, none⟩).run Tryd.prog w = .ok (.agg cs) w) :
    (results fn tmps).run Tryd.prog w = .ok (.tuple #[.agg cs, tmps.getD u undef]) w := by
  have hp' : tmps[p]?.getD undef = .pointer (some ⟨g, 0, none⟩) := by simpa using hp
  simp [results, h, hp', asAddr, hl]
def Z3 (v t x : Value) : Obj := .cells #[v, t, x] 27
theorem set_ne {w : World} {g b o : Nat} {x : Value} {ob : Obj} (h : w.heap[g]? = some ob) (hb : b ≠ g) : (w.setCell ⟨b, o, none⟩ x).heap[g]? = some ob :=
  (Below.heap_setCell w ⟨b, o, none⟩ x g (by simp; omega)).trans h
set_option maxRecDepth 100000 in
set_option maxHeartbeats 4000000 in
theorem wrefFact_any (v : Value) (b : List UInt8) (hbl : b.length ≤ 10000) (w : World) (hR : Reads w v b) : Calls Tryd.prog 35 #[v] w (FrPost w b) := by
  obtain ⟨a, cap, rfl, hm⟩ := hR.form
  unfold maxLen at hm
  have HR : Hid (Reads w (.slice a b.length cap) b) := hR
  clear hR
  obtain ⟨C, HC⟩ := hid_ex (rsF b 0 0).1
  obtain ⟨N, HN⟩ := hid_ex (rsF b 0 0).2.1
  obtain ⟨E, HE⟩ := hid_ex (rsF b 0 0).2.2
  have HB0 : Hid (Below w.heap.size w ((w.alloc (.cells #[.slice none 0 0, .int .i64 0, .int .i64 0] 27)).alloc (.cells #[.slice none 0 0, .int .i64 0, .int .i64 0] 27))) := ((Below.refl _ _).alloc (Nat.le_refl _) _).alloc (by simp) _
  have HRS : Hid (Calls Tryd.prog 34 #[.slice a b.length cap] ((w.alloc (.cells #[.slice none 0 0, .int .i64 0, .int .i64 0] 27)).alloc (.cells #[.slice none 0 0, .int .i64 0, .int .i64 0] 27)) fun e w' => e = .returned (.tuple #[.int .u64 (C : Int), .int .i64 (N : Int), .int .i64 E]) ∧ Below (w.heap.size + 2) ((w.alloc (.cells #[.slice none 0 0, .int .i64 0, .int .i64 0] 27)).alloc (.cells #[.slice none 0 0, .int .i64 0, .int .i64 0] 27)) w') := by
    have := refReadShort_any _ b _ (HR.out.below HB0.out)
    rw [← HC.out, ← HN.out, ← HE.out] at this
    unfold Hid
    simpa using this
  go_enter Tryd.func35, Tryd.ntmps35
  go_wp2_with fail
  refine HRS.out.mono ?_
  rintro e w1 ⟨rfl, hb1⟩
  have HK1 : Hid (w1.heap[w.heap.size + 1]? = some (Z3 (.slice none 0 0) (.int .i64 0) (.int .i64 0))) := (hb1.block (w.heap.size + 1) (by omega)).trans (by have := World.alloc_heap_new (w.alloc (.cells #[.slice none 0 0, .int .i64 0, .int .i64 0] 27)) (.cells #[.slice none 0 0, .int .i64 0, .int .i64 0] 27); simpa [Z3] using this)
  have HJ1 : Hid (w1.heap[w.heap.size]? = some (Z3 (.slice none 0 0) (.int .i64 0) (.int .i64 0))) := (hb1.block w.heap.size (by omega)).trans ((((Below.refl (w.heap.size + 1) (w.alloc (.cells #[.slice none 0 0, .int .i64 0, .int .i64 0] 27))).alloc (by simp) _).block w.heap.size (by omega)).trans (World.alloc_heap_new _ _))
  have hz1 : w.heap.size + 2 ≤ w1.heap.size := by have := hb1.size; simpa using this
  have HB1 : Hid (Below w.heap.size w w1) := HB0.out.trans (hb1.mono (by omega))
  clear hb1 HRS HB0
  by_cases hE : E = 0
  · subst hE
    by_cases hC : C ≤ 4
    · have hC' : ¬ (4 : Int) < (C : Int) := by omega
      have HNl : Hid (N ≤ b.length) := by
        obtain ⟨u, c, h1, _, h3, _⟩ := rsF_ok b 0 0 C N (by rw [HC.out, HN.out, HE.out]) (by omega) (by simp)
        show N ≤ _
        omega
      have HG : Hid (rdF b = match rdD C (b.drop N) with
          | none => none
          | some (D, r) => if r.length < 16 then none else some (⟨D, (rnF r).1, (rnF (r.drop 8)).1⟩, r.drop 16)) := by
        have := rdF_go (b := b) HE.out.symm (by rw [← HC.out]; exact hC)
        rw [← HC.out, ← HN.out] at this
        exact this
      have hNl := HNl.out
      have hd0 : decide ((4 : Int) < (C : Int)) = false := decide_eq_false hC'
      clear HC HN HE
      go_wp2_with fail
      go_loopw [6, 8] (fun av i wr => ∃ (k A : Nat) (M : List ByteArray) (ad : Option Addr) (cd : Nat), k ≤ C ∧ A ≤ b.length ∧ av = .int .i64 (A : Int) ∧ i = .int .u64 (k : Int) ∧ Hid (M.length = k) ∧ Hid (rdD C (b.drop N) = (rdD (C - k) (b.drop A)).map fun q => (M ++ q.1, q.2)) ∧ SOwn wr (w.heap.size + 2) (.slice ad M.length cd) M ∧ Hid (Below w.heap.size w wr) ∧ Hid (wr.heap[w.heap.size]? = some (Z3 (.slice none 0 0) (.int .i64 0) (.int .i64 0))) ∧ Hid (wr.heap[w.heap.size + 1]? = some (Z3 (.slice ad M.length cd) (.int .i64 0) (.int .i64 0))) ∧ w.heap.size + 2 ≤ wr.heap.size) (fun _ i _ => C - (intOf i).toNat)
      case atStart =>
        refine ⟨0, N, [], none, 0, by omega, hNl, rfl, rfl, rfl, ?_, SOwn.nil _ _, HB1, HJ1, HK1, hz1⟩
        simp [Hid]
      case round =>
        obtain ⟨k, A, M, ad, cd, hk, hA, rfl, rfl, HML, HD, HO, HB, HJ, HK, hz⟩ := hrel
        obtain ⟨ar, cr, hsl, hrd⟩ := sl_from HR.out hA
        have HRr : Hid (Reads w (.slice ar (b.length - A) cr) (b.drop A)) := hrd
        have hrl : (b.drop A).length ≤ 10000 := by simp; omega
        obtain ⟨r, Hr⟩ := hid_ex (b.drop A)
        have hrlen : r.length = b.length - A := by rw [Hr.out]; simp
        rw [← Hr.out] at HD HRr hrl
        clear hrd
        by_cases hlt : (k : Int) < (C : Int)
        · have HT : Hid (Calls Tryd.prog 61 #[.slice ar (b.length - A) cr] wr fun e w' => e = .returned (.tuple #[.string ⟨(rtF r [] 0).1.toArray⟩, .int .i64 (rtF r [] 0).2.1, .int .i64 (rtF r [] 0).2.2]) ∧ Below wr.heap.size wr w') := refReadText_any _ r hrl wr (HRr.out.below HB.out)
          have HD1 : Hid (rdD (C - k) r = if (rtF r [] 0).2.2 = 0 then (rdD (C - (k + 1)) (r.drop (rtF r [] 0).2.1)).map (fun q => (⟨(rtF r [] 0).1.toArray⟩ :: q.1, q.2)) else none) := by
            unfold Hid; rw [show C - k = (C - (k + 1)) + 1 by omega, rdD]
          obtain ⟨S, HS⟩ := hid_ex (⟨(rtF r [] 0).1.toArray⟩ : ByteArray)
          obtain ⟨L, HL⟩ := hid_ex (rtF r [] 0).2.1
          obtain ⟨F, HF⟩ := hid_ex (rtF r [] 0).2.2
          have HOk : Hid (F = 0 → L ≤ r.length ∧ S.size ≤ 10000) := by
            intro h
            obtain ⟨s, c, h1, _, h3, h4, h5⟩ := rtF_ok r.length r [] 0 (rtF r [] 0).1 L (Nat.le_refl _) (by rw [HL.out, ← h, HF.out])
            have h6 := congrArg List.length h5
            have h7 : s.length ≤ (tx s).length := by unfold tx; rw [List.length_append]; have := txb_ge s; omega
            rw [h6.trans (List.length_take_of_le h3)] at h7
            refine ⟨by omega, ?_⟩
            rw [HS.out, h4]
            show ([] ++ s).toArray.size ≤ _
            simp
            omega
          rw [← HS.out, ← HL.out, ← HF.out] at HT HD1
          have Hrl : Hid (r.length = b.length - A) := hrlen
          clear HS HL HF hrlen hrl
          go_wp2_with fail
          refine HT.out.mono ?_
          rintro e w2 ⟨rfl, hb2⟩
          have HB2 : Hid (Below w.heap.size w w2) := HB.out.trans (hb2.mono HB.out.size)
          have HO2 : SOwn w2 (w.heap.size + 2) (.slice ad M.length cd) M := HO.below hb2
          have HJ2 : Hid (w2.heap[w.heap.size]? = some (Z3 (.slice none 0 0) (.int .i64 0) (.int .i64 0))) := (hb2.block w.heap.size (by omega)).trans HJ.out
          have HK2 : Hid (w2.heap[w.heap.size + 1]? = some (Z3 (.slice ad M.length cd) (.int .i64 0) (.int .i64 0))) := (hb2.block (w.heap.size + 1) (by omega)).trans HK.out
          have hz2 : w.heap.size + 2 ≤ w2.heap.size := by have := hb2.size; omega
          clear hb2 HB HO HK HJ HT hz hsl
          have k0 := cl3 HK2.out 0 (by simp)
          have k1 := cl3 HK2.out 1 (by simp)
          have k2 := cl3 HK2.out 2 (by simp)
          simp only [List.getElem_toArray, List.getElem_cons_succ, List.getElem_cons_zero] at k0 k1 k2
          by_cases hF : F = 0
          · subst hF
            obtain ⟨hL1, hS1⟩ := HOk.out rfl
            rw [if_pos rfl] at HD1
            obtain ⟨M2, HM2⟩ := hid_ex (M ++ [S])
            have HD2 : Hid (rdD C (b.drop N) = (rdD (C - (k + 1)) (b.drop (A + L))).map fun q => (M2 ++ q.1, q.2)) := by
              unfold Hid; rw [HD.out, HD1.out, HM2.out, Option.map_map, Hr.out, List.drop_drop]; congr 1; funext q; simp
            have HML2 : Hid (M2.length = k + 1) := by unfold Hid; rw [HM2.out, List.length_append, HML.out]; rfl
            have hMl : M.length + 1 ≤ 8796093022208 := by have := HML.out; omega
            have hAL : A + L ≤ b.length := by have := Hrl.out; omega
            clear HD HD1 HRr HML hL1
            go_wp2_with (at_builtin; refine wpList_sapp1 rfl _ _ rfl (w.heap.size + 2) _ M M2 HM2.out (by unfold maxLen; omega) rfl rfl HO2 hMl (by omega) ?_)
            intro v3 w3 HO3 hb3
            have HB3 : Hid (Below w.heap.size w w3) := HB2.out.trans (hb3.out.mono (by omega))
            have HJ3 : Hid (w3.heap[w.heap.size]? = some (Z3 (.slice none 0 0) (.int .i64 0) (.int .i64 0))) := (hb3.out.block w.heap.size (by omega)).trans HJ2.out
            have HK3 : Hid (w3.heap[w.heap.size + 1]? = some (Z3 (.slice ad M.length cd) (.int .i64 0) (.int .i64 0))) := (hb3.out.block (w.heap.size + 1) (by omega)).trans HK2.out
            have hz3 : w.heap.size + 2 ≤ w3.heap.size := by have := hb3.out.size; omega
            clear hb3 HB2 HO2 HJ2 HK2 hz2 k0 k1 k2
            obtain ⟨a3, c3, hv3⟩ : ∃ a c, v3 = .slice a M2.length c := row_form2 HO3.1
            subst hv3
            have f0 := fz3 HK3.out 0
            have k0 := cl3 HK3.out 0 (by simp)
            simp only [List.getElem_toArray, List.getElem_cons_zero] at k0
            have HO4 := sown_set (b := w.heap.size + 1) (o := 0) (x := .slice a3 M2.length c3) HO3 (by omega)
            have HB4 : Hid (Below w.heap.size w (w3.setCell ⟨w.heap.size + 1, 0, none⟩ (.slice a3 M2.length c3))) := HB3.out.setCell (p := ⟨w.heap.size + 1, 0, none⟩) (by show w.heap.size ≤ w.heap.size + 1; omega) _
            have HJ4 : Hid ((w3.setCell ⟨w.heap.size + 1, 0, none⟩ (.slice a3 M2.length c3)).heap[w.heap.size]? = some (Z3 (.slice none 0 0) (.int .i64 0) (.int .i64 0))) := set_ne HJ3.out (by omega)
            have HK4 : Hid ((w3.setCell ⟨w.heap.size + 1, 0, none⟩ (.slice a3 M2.length c3)).heap[w.heap.size + 1]? = some (Z3 (.slice a3 M2.length c3) (.int .i64 0) (.int .i64 0))) := (cells_set HK3.out 0 _).trans rfl
            clear HO3 HB3 HJ3 HK3
            go_wp2_with fail
            go_roundw
            case rel => exact ⟨k + 1, A + L, M2, a3, c3, by omega, hAL, by go_num, by go_num, HML2, HD2, HO4, HB4, HJ4, HK4, by simpa using hz3⟩
            case measure => simp [intOf]; omega
          · have HNo : Hid (rdF b = none) := by
              unfold Hid; rw [HG.out, HD.out, HD1.out, if_neg hF]; rfl
            have hF' : (F != 0) = true := by simpa using hF
            clear hF
            have f0 := fz3 HJ2.out 0
            have f1 := fz3 HJ2.out 1
            have f2 := fz3 HJ2.out 2
            have j0 := cl3 HJ2.out 0 (by simp)
            have j1 := cl3 HJ2.out 1 (by simp)
            have j2 := cl3 HJ2.out 2 (by simp)
            simp only [List.getElem_toArray, List.getElem_cons_succ, List.getElem_cons_zero] at j0 j1 j2
            go_wp2_with fail
            have HK9 := set3 HJ2.out rfl (.slice ad M.length cd) (.int .i64 0) (.int .i64 0)
            refine bodyPost_ret (results_ct rfl _ _ w.heap.size _ rfl (run_loadVar_row _ w.heap.size _ _ _ (0, 0) _ HK9 Tryd.underlying27 rfl (by kernel_rfl))) rfl ?_
            exact FrPost.no HNo.out (below3 HB2.out (Nat.le_refl _) _ _ _) _ _ _ _ _
        · have HD3 : Hid (rdD C (b.drop N) = some (M, r)) := by
            unfold Hid; rw [HD.out, show C - k = 0 by omega]; simp [rdD]
          have HG2 : Hid (rdF b = if r.length < 16 then none else some (⟨M, (rnF r).1, (rnF (r.drop 8)).1⟩, r.drop 16)) := by
            unfold Hid; rw [HG.out, HD3.out]
          clear HD HD3 HG
          have k0 := cl3 HK.out 0 (by simp)
          have k1 := cl3 HK.out 1 (by simp)
          have k2 := cl3 HK.out 2 (by simp)
          simp only [List.getElem_toArray, List.getElem_cons_succ, List.getElem_cons_zero] at k0 k1 k2
          by_cases h16 : (b.length : Int) - (A : Int) < 16
          · have HNo : Hid (rdF b = none) := by unfold Hid; rw [HG2.out, if_pos (by omega)]
            have f0 := fz3 HJ.out 0
            have f1 := fz3 HJ.out 1
            have f2 := fz3 HJ.out 2
            have j0 := cl3 HJ.out 0 (by simp)
            have j1 := cl3 HJ.out 1 (by simp)
            have j2 := cl3 HJ.out 2 (by simp)
            simp only [List.getElem_toArray, List.getElem_cons_succ, List.getElem_cons_zero] at j0 j1 j2
            go_wp2_with fail
            have HK9 := set3 HJ.out rfl (.slice ad M.length cd) (.int .i64 0) (.int .i64 0)
            refine bodyPost_ret (results_ct rfl _ _ w.heap.size _ rfl (run_loadVar_row _ w.heap.size _ _ _ (0, 0) _ HK9 Tryd.underlying27 rfl (by kernel_rfl))) rfl ?_
            exact FrPost.no HNo.out (below3 HB.out (Nat.le_refl _) _ _ _) _ _ _ _ _
          · obtain ⟨T, HTT⟩ := hid_ex (rnF r).1
            obtain ⟨V, HVV⟩ := hid_ex (rnF (r.drop 8)).1
            have HYes : Hid (rdF b = some (⟨M, T, V⟩, r.drop 16)) := by unfold Hid; rw [HG2.out, if_neg (by omega), HTT.out, HVV.out]
            have Hd : Hid (r.drop 16 = b.drop (A + 16)) := by unfold Hid; rw [Hr.out, List.drop_drop]
            have HN1 : Hid (Calls Tryd.prog 33 #[.slice ar (b.length - A) cr] wr fun e w' => e = .returned (.tuple #[.int .i64 T, .int .i64 8, .int .i64 0]) ∧ Below wr.heap.size wr w') := by
              have := refReadNumber_any _ r wr (HRr.out.below HB.out)
              rw [rn_hi (by omega), ← HTT.out] at this
              exact this
            obtain ⟨a5, c5, hsl5, hrd5⟩ := sl_from HR.out (c := A + 8) (by omega)
            have hsl6 : ∀ w', (Instr.slice 28 (.slice a b.length cap) (some (.int .i64 ((A : Int) + 8))) none none).run Tryd.prog w' = .ok (.slice a5 (b.length - (A + 8)) c5) w' := hsl5
            have HN2 : Hid (∀ W, Below w.heap.size w W → Calls Tryd.prog 33 #[.slice a5 (b.length - (A + 8)) c5] W fun e w' => e = .returned (.tuple #[.int .i64 V, .int .i64 8, .int .i64 0]) ∧ Below W.heap.size W w') := by
              intro W hW
              have := refReadNumber_any _ (b.drop (A + 8)) W (hrd5.below hW)
              have e8 : b.drop (A + 8) = r.drop 8 := by rw [Hr.out, List.drop_drop]
              rw [e8, rn_hi (show ¬ (r.drop 8).length < 8 by simp; omega), ← HVV.out] at this
              exact this
            have hA16 : A + 16 ≤ b.length := by omega
            clear hsl5 hrd5 HG2 HTT HVV Hr hrlen HRr k0 k1 k2
            go_wp2_with fail
            refine HN1.out.mono ?_
            rintro e w4 ⟨rfl, hb4⟩
            have HB4 : Hid (Below w.heap.size w w4) := HB.out.trans (hb4.mono HB.out.size)
            have HO4 : SOwn w4 (w.heap.size + 2) (.slice ad M.length cd) M := HO.below hb4
            have HJ4 : Hid (w4.heap[w.heap.size]? = some (Z3 (.slice none 0 0) (.int .i64 0) (.int .i64 0))) := (hb4.block w.heap.size (by omega)).trans HJ.out
            have HK4 : Hid (w4.heap[w.heap.size + 1]? = some (Z3 (.slice ad M.length cd) (.int .i64 0) (.int .i64 0))) := (hb4.block (w.heap.size + 1) (by omega)).trans HK.out
            have hz4 : w.heap.size + 2 ≤ w4.heap.size := by have := hb4.size; omega
            have HO5 := sown_set (b := w.heap.size + 1) (o := 1) (x := .int .i64 T) HO4 (by omega)
            have HB5 : Hid (Below w.heap.size w (w4.setCell ⟨w.heap.size + 1, 1, none⟩ (.int .i64 T))) := HB4.out.setCell (p := ⟨w.heap.size + 1, 1, none⟩) (by show w.heap.size ≤ w.heap.size + 1; omega) _
            have HJ5 : Hid ((w4.setCell ⟨w.heap.size + 1, 1, none⟩ (.int .i64 T)).heap[w.heap.size]? = some (Z3 (.slice none 0 0) (.int .i64 0) (.int .i64 0))) := set_ne HJ4.out (by omega)
            have HK5 : Hid ((w4.setCell ⟨w.heap.size + 1, 1, none⟩ (.int .i64 T)).heap[w.heap.size + 1]? = some (Z3 (.slice ad M.length cd) (.int .i64 T) (.int .i64 0))) := (cells_set HK4.out 1 _).trans rfl
            have hz5 : w.heap.size + 2 ≤ (w4.setCell ⟨w.heap.size + 1, 1, none⟩ (.int .i64 T)).heap.size := by simpa using hz4
            have f1 := fz3 HK4.out 1
            have k1 := cl3 HK4.out 1 (by simp)
            simp only [List.getElem_toArray, List.getElem_cons_succ, List.getElem_cons_zero] at k1
            clear hb4 HN1 HB HO HJ HK hz hsl HO4 HB4 HJ4 HK4 hz4
            go_wp2_with fail
            generalize w4.setCell ⟨w.heap.size + 1, 1, none⟩ (.int .i64 T) = wx at *
            refine (HN2.out _ HB5.out).mono ?_
            rintro e w6 ⟨rfl, hb6⟩
            have HB6 : Hid (Below w.heap.size w w6) := HB5.out.trans (hb6.mono HB5.out.size)
            have HO6 : SOwn w6 (w.heap.size + 2) (.slice ad M.length cd) M := HO5.below hb6
            have HJ6 : Hid (w6.heap[w.heap.size]? = some (Z3 (.slice none 0 0) (.int .i64 0) (.int .i64 0))) := (hb6.block w.heap.size (by omega)).trans HJ5.out
            have HK6 : Hid (w6.heap[w.heap.size + 1]? = some (Z3 (.slice ad M.length cd) (.int .i64 T) (.int .i64 0))) := (hb6.block (w.heap.size + 1) (by omega)).trans HK5.out
            have HO7 := sown_set (b := w.heap.size + 1) (o := 2) (x := .int .i64 V) HO6 (by omega)
            have HB7 : Hid (Below w.heap.size w (w6.setCell ⟨w.heap.size + 1, 2, none⟩ (.int .i64 V))) := HB6.out.setCell (p := ⟨w.heap.size + 1, 2, none⟩) (by show w.heap.size ≤ w.heap.size + 1; omega) _
            have HJ7 : Hid ((w6.setCell ⟨w.heap.size + 1, 2, none⟩ (.int .i64 V)).heap[w.heap.size]? = some (Z3 (.slice none 0 0) (.int .i64 0) (.int .i64 0))) := set_ne HJ6.out (by omega)
            have HK7 : Hid ((w6.setCell ⟨w.heap.size + 1, 2, none⟩ (.int .i64 V)).heap[w.heap.size + 1]? = some (Z3 (.slice ad M.length cd) (.int .i64 T) (.int .i64 V))) := (cells_set HK6.out 2 _).trans rfl
            have f1 := fz3 HK6.out 2
            have k1 := cl3 HK6.out 2 (by simp)
            have m0 := cl3 HK7.out 0 (by simp)
            have m1 := cl3 HK7.out 1 (by simp)
            have m2 := cl3 HK7.out 2 (by simp)
            have f0 := fz3 HJ7.out 0
            have f1' := fz3 HJ7.out 1
            have f2 := fz3 HJ7.out 2
            have j0 := cl3 HJ7.out 0 (by simp)
            have j1 := cl3 HJ7.out 1 (by simp)
            have j2 := cl3 HJ7.out 2 (by simp)
            simp only [List.getElem_toArray, List.getElem_cons_succ, List.getElem_cons_zero] at k1 m0 m1 m2 j0 j1 j2
            clear hb6 HN2 HB5 HO5 HJ5 HK5 hz5 HO6 HB6 HJ6 HK6 hsl6
            go_wp2_with fail
            have HK9 := set3 HJ7.out rfl (.slice ad M.length cd) (.int .i64 T) (.int .i64 V)
            refine bodyPost_ret (results_ct rfl _ _ w.heap.size _ rfl (run_loadVar_row _ w.heap.size _ _ _ (0, 0) _ HK9 Tryd.underlying27 rfl (by kernel_rfl))) rfl ?_
            exact FrPost.yes (at' := A + 16) HYes.out (below3 HB7.out (Nat.le_refl _) _ _ _) (sown_set (sown_set (sown_set HO7 (by omega)) (by omega)) (by omega)) Hd.out (by omega) hA16
    · have HNo : Hid (rdF b = none) := rdF_bad (fun h => hC (by rw [HC.out]; exact h.2))
      have hC' : (4 : Int) < (C : Int) := by omega
      clear hC
      have k0 := cl3 HK1.out 0 (by simp)
      have k1 := cl3 HK1.out 1 (by simp)
      have k2 := cl3 HK1.out 2 (by simp)
      have f0 := fz3 HJ1.out 0
      have f1 := fz3 HJ1.out 1
      have f2 := fz3 HJ1.out 2
      have j0 := cl3 HJ1.out 0 (by simp)
      have j1 := cl3 HJ1.out 1 (by simp)
      have j2 := cl3 HJ1.out 2 (by simp)
      simp only [List.getElem_toArray, List.getElem_cons_succ, List.getElem_cons_zero] at k0 k1 k2 j0 j1 j2
      go_wp2_with fail
      have HK9 := set3 HJ1.out rfl (.slice none 0 0) (.int .i64 0) (.int .i64 0)
      refine bodyPost_ret (results_ct rfl _ _ w.heap.size _ rfl (run_loadVar_row _ w.heap.size _ _ _ (0, 0) _ HK9 Tryd.underlying27 rfl (by kernel_rfl))) rfl ?_
      exact FrPost.no HNo.out (below3 HB1.out (Nat.le_refl _) _ _ _) _ _ _ _ _
  · have HNo : Hid (rdF b = none) := rdF_bad (fun h => hE (by rw [HE.out]; exact h.1))
    have hE' : (E != 0) = true := by simpa using hE
    clear hE
    have k0 := cl3 HK1.out 0 (by simp)
    have k1 := cl3 HK1.out 1 (by simp)
    have k2 := cl3 HK1.out 2 (by simp)
    have f0 := fz3 HJ1.out 0
    have f1 := fz3 HJ1.out 1
    have f2 := fz3 HJ1.out 2
    have j0 := cl3 HJ1.out 0 (by simp)
    have j1 := cl3 HJ1.out 1 (by simp)
    have j2 := cl3 HJ1.out 2 (by simp)
    simp only [List.getElem_toArray, List.getElem_cons_succ, List.getElem_cons_zero] at k0 k1 k2 j0 j1 j2
    go_wp2_with fail
    have HK9 := set3 HJ1.out rfl (.slice none 0 0) (.int .i64 0) (.int .i64 0)
    refine bodyPost_ret (results_ct rfl _ _ w.heap.size _ rfl (run_loadVar_row _ w.heap.size _ _ _ (0, 0) _ HK9 Tryd.underlying27 rfl (by kernel_rfl))) rfl ?_
    exact FrPost.no HNo.out (below3 HB1.out (Nat.le_refl _) _ _ _) _ _ _ _ _
end Go.Proofs.YtahigmjpeicemaaDoor

/- A range over a function that tells something of what it hands over: a law of our own. -/
namespace Go.Proofs.YtahigmjpeicemaaDoor
open Go.RowKit

/-- B has what A has in cells, and all that lies below n. -/
structure Kc (n : Nat) (A B : World) : Prop where
  b : Below n A B
  c : ∀ (k : Nat) (cs : Array Value) (t : TypeId) (fr : Nat × Nat), A.heap[k]? = some (Obj.cells cs t fr) → B.heap[k]? = some (Obj.cells cs t fr)
theorem Kc.of_below {n : Nat} {A B : World} (h : Below A.heap.size A B) (hn : n ≤ A.heap.size) : Kc n A B :=
  ⟨h.mono hn, fun k _ _ _ hk => (h.block k (Array.getElem?_eq_some_iff.1 hk).1).trans hk⟩
theorem Kc.put {n : Nat} {A : World} {l : Nat} {o : Obj} (o' : Obj) (h : A.heap[l]? = some o) (ho : o.isCells = false) (hn : n ≤ l) : Kc n A (A.putObj l o') := by
  refine ⟨(Below.refl n A).grown (grownBy_putObj' A l o') (by have := (Array.getElem?_eq_some_iff.1 h).1; omega) (fun k e => by cases e; exact hn), fun k cs t fr hk => ?_⟩
  by_cases e : k = l
  · subst e
    rw [h] at hk
    simp at hk
    subst hk
    simp [Obj.isCells] at ho
  · rw [World.putObj_heap_other e]; exact hk
variable {F : Fence} {n : Nat} {P : Program}
/-- What the function that is ranged over must do: it hands over what meets Pre, one behind the other, and in the end S. -/
def SeqP {α : Type} (F : Fence) (n : Nat) (P : Program) (g : Nat) (lb : Array Value) (encs : α → Array Value) (n₀ : Nat) (Pre : List α → α → World → Prop) (S : List α → Prop) (w : World) : Prop :=
  ∀ (l : Nat) (J : List α → World → Prop) (W : World), Kc n₀ w W → n₀ ≤ W.heap.size → (∀ pre A B, J pre A → Below A.heap.size A B → J pre B) →
    (∀ pre x W1, J pre W1 → Pre pre x W1 → n₀ ≤ W1.heap.size → YieldAt F (n - 1) P l (encs x) W1 fun e W' => e = .returned (.bool true) ∧ J (pre ++ [x]) W' ∧ Below n₀ W1 W') →
    J [] W → CallsIn F n P g (#[.func (.yield l) #[] #[]] ++ lb) W fun e W' => (∃ v, e = .returned v) ∧ ∃ xs, S xs ∧ J xs W'
/-- How a round that goes on ends. -/
def postP {α : Type} (n₀ : Nat) (I : List α → World → Prop) (xs : List α) (W : World) : Exit → Act → World → Prop
  | .normal, _, W' => KeepsOthers W W' ∧ Below n₀ W W' ∧ I xs W'
  | _, _, _ => False
theorem wpIn_range_pre {α : Type} {g : Operand} {ps : Array Tmp} {assign body : Code} {Q : Exit → Act → World → Prop} {a : Act} {w : World}
    (hro : F.round = none) (h1 : 1 ≤ n) {gf : Nat} {lb : Array Value} (hg : a.eval g = .func (.func gf) #[] lb) (hFg : F.fn gf) (eg : ∀ args w, (callFunc gf args).run P w = .ok (.enter gf args) w)
    {encs : α → Array Value} (hps : ∀ x, (encs x).size = ps.size) (I : List α → World → Prop) (Pre : List α → α → World → Prop) (S : List α → Prop)
    (n₀ : Nat) (hn₀ : n₀ ≤ w.heap.size) (hseq : SeqP F (n - 1) P gf lb encs n₀ Pre S w)
    (hI : ∀ pre A B, I pre A → Kc n₀ A B → I pre B) (hP : ∀ pre x A B, Pre pre x A → Kc n₀ A B → Pre pre x B) (h0 : I [] w) (a₁ : α → Act)
    (hassign : ∀ (l : Nat) (x : α) (W : World) (K : Act → World → Prop), K (a₁ x) W →
      assign.wpIn (F.inRound l) (n - 1 - 1) P (Exit.then K (fun _ _ _ => False)) { tmps := (ps.zip (encs x)).foldl (fun t (p, v) => t.setIfInBounds p v) a.tmps, defers := [] } W)
    (hbody : ∀ (l : Nat) (pre : List α) (x : α) (W : World), I pre W → Pre pre x W → n₀ ≤ W.heap.size → body.wpIn (F.inRound l) (n - 1 - 1) P (postP n₀ I (pre ++ [x]) W) (a₁ x) W)
    (hdone : ∀ (D : Nat) (xs : List α) (W : World), w.heap.size ≤ D → S xs → I xs W → W.heap[D]? = some (.deferred (some [])) → Q .normal { a with defers := { target := .collected D, args := #[] } :: a.defers } W) :
    (Code.rangeFunc g ps assign body).wpIn F n P Q a w := by
  refine wpIn_rangeFunc ?_
  intro fn hfn
  rw [hro]
  have hen := run_enterLoop_outer (P := P) (w := w) fn a.tmps ps assign body
  generalize hd : w.heap.size = d at *
  generalize hr0 : ({ state := .ready, pending := none, fn := fn, tmps := a.tmps, params := ps, assign := assign, body := body, defers := d } : Loop) = r0 at *
  have e1 : r0.fn = fn := by rw [← hr0]
  have e2 : r0.params = ps := by rw [← hr0]
  have e3 : r0.state = .ready := by rw [← hr0]
  have e4 : r0.tmps = a.tmps := by rw [← hr0]
  have e5 : r0.assign = assign := by rw [← hr0]
  have e6 : r0.body = body := by rw [← hr0]
  have e7 : r0.pending = none := by rw [← hr0]
  generalize hW : (w.alloc (.deferred (some []))).alloc (.loop r0) = W0 at *
  have hB : Below d w W0 := by
    rw [← hW]
    exact ((Below.refl d w).alloc (by omega) _).alloc (by simp; omega) _
  have hz : W0.heap.size = d + 2 := by rw [← hW]; simp; omega
  have hD0 : W0.heap[d]? = some (.deferred (some [])) := by
    rw [← hW, Below.heap_alloc _ _ _ (by simp; omega), ← hd]; exact World.alloc_heap_new w _
  have hL0 : W0.heap[d + 1]? = some (.loop r0) := by
    have := World.alloc_heap_new (w.alloc (.deferred (some []))) (.loop r0)
    rw [World.size_alloc, hd, hW] at this
    exact this
  refine ⟨d + 1, _, W0, { target := .fn (.func gf) lb, args := #[.func (.yield (d + 1)) #[] #[]] }, W0, gf, #[.func (.yield (d + 1)) #[] #[]] ++ lb, W0, hen, ?_, ?_, ?_, fun _ => h1, ?_⟩
  · simp only [resolve, hg]; simp [go_sem]
  · intro f' hf'; simp [Target.leads] at hf'; subst hf'; exact hFg
  · simp [invoke, go_sem, eg]
  · have hKw : Kc n₀ w W0 := ⟨hB.mono hn₀, fun k _ _ _ hk => (hB.block k (by have := (Array.getElem?_eq_some_iff.1 hk).1; omega)).trans hk⟩
    have hI0 : I [] W0 := hI [] w W0 h0 hKw
    refine (hseq (d + 1) (fun pre W => I pre W ∧ W.heap[d + 1]? = some (.loop r0) ∧ W.heap[d]? = some (.deferred (some [])) ∧ d ≤ W.heap.size) W0 hKw (by omega) ?_ ?_ ⟨hI0, hL0, hD0, by omega⟩).mono ?_
    · rintro pre A B ⟨q1, q2, q3, q4⟩ hb
      have hs := hb.size
      exact ⟨hI pre A B q1 (Kc.of_below hb (by omega)), (hb.block _ (Array.getElem?_eq_some_iff.1 q2).1).trans q2, (hb.block _ (Array.getElem?_eq_some_iff.1 q3).1).trans q3, by omega⟩
    · rintro pre x W ⟨q1, q2, q3, q4⟩ hpx hdw
      have hl := (Array.getElem?_eq_some_iff.1 q2).1
      have hy := run_yield (P := P) (args := encs x) q2 (by rw [e2]; exact hps x)
      rw [e1, e2, e4, e5, e6] at hy
      refine ⟨fn, _, assign, body, hy, roundIn_of_wpIn hfn (hassign _ x W _ ⟨_, run_beginRound q2 e3, ?_⟩)⟩
      have k1 := Kc.put (n := n₀) (.loop { r0 with state := .busy }) q2 rfl (by omega)
      have l1 : (W.putObj (d + 1) (.loop { r0 with state := .busy })).heap[d + 1]? = some (.loop { r0 with state := .busy }) := World.putObj_heap_same hl
      have d1 : (W.putObj (d + 1) (.loop { r0 with state := .busy })).heap[d]? = some (.deferred (some [])) := (World.putObj_heap_other (by omega)).trans q3
      refine wpIn_mono (hbody _ pre x _ (hI _ _ _ q1 k1) (hP _ _ _ _ hpx k1) (by simp; omega)) ?_
      intro e a3 W3 hp
      cases e with
      | normal =>
        obtain ⟨m1, m2, m3⟩ := hp
        have l3 := m1.same _ _ l1 rfl
        have d3 := m1.same _ _ d1 rfl
        have hend := run_endRound (P := P) none l3
        have hl3 := (Array.getElem?_eq_some_iff.1 l3).1
        have e9 : ({ ({ r0 with state := .busy } : Loop) with state := if (none : Option Code).isNone then .ready else .done, pending := none } : Loop) = r0 := by
          rw [← hr0]; rfl
        rw [e9] at hend
        have k3 := Kc.put (n := n₀) (.loop r0) l3 rfl (by omega)
        exact ⟨_, _, hend, rfl, ⟨hI _ _ _ m3 k3, World.putObj_heap_same hl3, (World.putObj_heap_other (by omega)).trans d3, by have := m1.size; simp at this ⊢; omega⟩, (k1.b.trans m2).trans k3.b⟩
      | ret => exact hp.elim
      | exit id => exact hp.elim
      | goto t => exact hp.elim
      | panic ch => exact hp.elim
      | outgrown => exact hp.elim
    · rintro e W2 ⟨⟨v, rfl⟩, xs, hS, q1, q2, q3, q4⟩
      have hend := run_endLoop (P := P) q2 (by rw [e3]; simp)
      rw [e7] at hend
      refine ⟨none, _, hend, ?_⟩
      exact hdone d xs _ (by omega) hS (hI _ _ _ q1 (Kc.put _ q2 rfl (by omega))) ((World.putObj_heap_other (by omega)).trans q3)
end Go.Proofs.YtahigmjpeicemaaDoor

/- A range over a function whose body may leave early: a law of our own. -/
namespace Go.Proofs.YtahigmjpeicemaaDoor
open Go.RowKit

variable {F : Fence} {n : Nat} {P : Program}
/-- What the function that is ranged over must do, if rounds may say no more. -/
def SeqX {α : Type} (F : Fence) (n : Nat) (P : Program) (g : Nat) (lb : Array Value) (encs : α → Array Value) (n₀ : Nat) (Pre : List α → α → World → Prop) (S Sp : List α → Prop) (w : World) : Prop :=
  ∀ (l : Nat) (J Jx : List α → World → Prop) (W : World), Kc n₀ w W → n₀ ≤ W.heap.size → (∀ pre A B, J pre A → Below A.heap.size A B → J pre B) → (∀ pre A B, Jx pre A → Below A.heap.size A B → Jx pre B) →
    (∀ pre x W1, J pre W1 → Pre pre x W1 → n₀ ≤ W1.heap.size → YieldAt F (n - 1) P l (encs x) W1 fun e W' => (e = .returned (.bool true) ∧ J (pre ++ [x]) W' ∧ Below n₀ W1 W') ∨ (e = .returned (.bool false) ∧ Jx (pre ++ [x]) W')) →
    J [] W → CallsIn F n P g (#[.func (.yield l) #[] #[]] ++ lb) W fun e W' => (∃ v, e = .returned v) ∧ ((∃ xs, S xs ∧ J xs W') ∨ ∃ xs, Sp xs ∧ Jx xs W')
/-- How a round ends. -/
def postX {α : Type} (n₀ : Nat) (I : List α → World → Prop) (Ix : Code → List α → World → Prop) (xs : List α) (W : World) : Exit → Act → World → Prop
  | .normal, _, W' => KeepsOthers W W' ∧ Below n₀ W W' ∧ I xs W'
  | .ret, _, W' => KeepsOthers W W' ∧ Ix .ret xs W'
  | .exit id, _, W' => KeepsOthers W W' ∧ Ix (.exit id) xs W'
  | _, _, _ => False
theorem wpIn_range_x {α : Type} {g : Operand} {ps : Array Tmp} {assign body : Code} {Q : Exit → Act → World → Prop} {a : Act} {w : World}
    (hro : F.round = none) (h1 : 1 ≤ n) {gf : Nat} {lb : Array Value} (hg : a.eval g = .func (.func gf) #[] lb) (hFg : F.fn gf) (eg : ∀ args w, (callFunc gf args).run P w = .ok (.enter gf args) w)
    {encs : α → Array Value} (hps : ∀ x, (encs x).size = ps.size) (I : List α → World → Prop) (Ix : Code → List α → World → Prop) (Pre : List α → α → World → Prop) (S Sp : List α → Prop)
    (n₀ : Nat) (hn₀ : n₀ ≤ w.heap.size) (hseq : SeqX F (n - 1) P gf lb encs n₀ Pre S Sp w)
    (hI : ∀ pre A B, I pre A → Kc n₀ A B → I pre B) (hIx : ∀ c pre A B, Ix c pre A → Kc n₀ A B → Ix c pre B) (hP : ∀ pre x A B, Pre pre x A → Kc n₀ A B → Pre pre x B) (h0 : I [] w) (a₁ : α → Act)
    (hassign : ∀ (l : Nat) (x : α) (W : World) (K : Act → World → Prop), K (a₁ x) W →
      assign.wpIn (F.inRound l) (n - 1 - 1) P (Exit.then K (fun _ _ _ => False)) { tmps := (ps.zip (encs x)).foldl (fun t (p, v) => t.setIfInBounds p v) a.tmps, defers := [] } W)
    (hbody : ∀ (l : Nat) (pre : List α) (x : α) (W : World), I pre W → Pre pre x W → n₀ ≤ W.heap.size → body.wpIn (F.inRound l) (n - 1 - 1) P (postX n₀ I Ix (pre ++ [x]) W) (a₁ x) W)
    (hdone : ∀ (D : Nat) (xs : List α) (W : World), w.heap.size ≤ D → S xs → I xs W → W.heap[D]? = some (.deferred (some [])) → Q .normal { a with defers := { target := .collected D, args := #[] } :: a.defers } W)
    (hleft : ∀ (D : Nat) (xs : List α) (c : Code) (W : World), w.heap.size ≤ D → Sp xs → Ix c xs W → W.heap[D]? = some (.deferred (some [])) → c.wpIn F n P Q { a with defers := { target := .collected D, args := #[] } :: a.defers } W) :
    (Code.rangeFunc g ps assign body).wpIn F n P Q a w := by
  refine wpIn_rangeFunc ?_
  intro fn hfn
  rw [hro]
  have hen := run_enterLoop_outer (P := P) (w := w) fn a.tmps ps assign body
  generalize hd : w.heap.size = d at *
  generalize hr0 : ({ state := .ready, pending := none, fn := fn, tmps := a.tmps, params := ps, assign := assign, body := body, defers := d } : Loop) = r0 at *
  have e1 : r0.fn = fn := by rw [← hr0]
  have e2 : r0.params = ps := by rw [← hr0]
  have e3 : r0.state = .ready := by rw [← hr0]
  have e4 : r0.tmps = a.tmps := by rw [← hr0]
  have e5 : r0.assign = assign := by rw [← hr0]
  have e6 : r0.body = body := by rw [← hr0]
  have e7 : r0.pending = none := by rw [← hr0]
  generalize hW : (w.alloc (.deferred (some []))).alloc (.loop r0) = W0 at *
  have hB : Below d w W0 := by
    rw [← hW]
    exact ((Below.refl d w).alloc (by omega) _).alloc (by simp; omega) _
  have hz : W0.heap.size = d + 2 := by rw [← hW]; simp; omega
  have hD0 : W0.heap[d]? = some (.deferred (some [])) := by
    rw [← hW, Below.heap_alloc _ _ _ (by simp; omega), ← hd]; exact World.alloc_heap_new w _
  have hL0 : W0.heap[d + 1]? = some (.loop r0) := by
    have := World.alloc_heap_new (w.alloc (.deferred (some []))) (.loop r0)
    rw [World.size_alloc, hd, hW] at this
    exact this
  refine ⟨d + 1, _, W0, { target := .fn (.func gf) lb, args := #[.func (.yield (d + 1)) #[] #[]] }, W0, gf, #[.func (.yield (d + 1)) #[] #[]] ++ lb, W0, hen, ?_, ?_, ?_, fun _ => h1, ?_⟩
  · simp only [resolve, hg]; simp [go_sem]
  · intro f' hf'; simp [Target.leads] at hf'; subst hf'; exact hFg
  · simp [invoke, go_sem, eg]
  · have hKw : Kc n₀ w W0 := ⟨hB.mono hn₀, fun k _ _ _ hk => (hB.block k (by have := (Array.getElem?_eq_some_iff.1 hk).1; omega)).trans hk⟩
    have hI0 : I [] W0 := hI [] w W0 h0 hKw
    refine (hseq (d + 1) (fun pre W => I pre W ∧ W.heap[d + 1]? = some (.loop r0) ∧ W.heap[d]? = some (.deferred (some [])) ∧ d ≤ W.heap.size)
      (fun pre W => ∃ c, Ix c pre W ∧ W.heap[d + 1]? = some (.loop { r0 with state := .done, pending := some c }) ∧ W.heap[d]? = some (.deferred (some [])) ∧ d ≤ W.heap.size) W0 hKw (by omega) ?_ ?_ ?_ ⟨hI0, hL0, hD0, by omega⟩).mono ?_
    · rintro pre A B ⟨q1, q2, q3, q4⟩ hb
      have hs := hb.size
      exact ⟨hI pre A B q1 (Kc.of_below hb (by omega)), (hb.block _ (Array.getElem?_eq_some_iff.1 q2).1).trans q2, (hb.block _ (Array.getElem?_eq_some_iff.1 q3).1).trans q3, by omega⟩
    · rintro pre A B ⟨c, q1, q2, q3, q4⟩ hb
      have hs := hb.size
      exact ⟨c, hIx c pre A B q1 (Kc.of_below hb (by omega)), (hb.block _ (Array.getElem?_eq_some_iff.1 q2).1).trans q2, (hb.block _ (Array.getElem?_eq_some_iff.1 q3).1).trans q3, by omega⟩
    · rintro pre x W ⟨q1, q2, q3, q4⟩ hpx hdw
      have hl := (Array.getElem?_eq_some_iff.1 q2).1
      have hy := run_yield (P := P) (args := encs x) q2 (by rw [e2]; exact hps x)
      rw [e1, e2, e4, e5, e6] at hy
      refine ⟨fn, _, assign, body, hy, roundIn_of_wpIn hfn (hassign _ x W _ ⟨_, run_beginRound q2 e3, ?_⟩)⟩
      have k1 := Kc.put (n := n₀) (.loop { r0 with state := .busy }) q2 rfl (by omega)
      have l1 : (W.putObj (d + 1) (.loop { r0 with state := .busy })).heap[d + 1]? = some (.loop { r0 with state := .busy }) := World.putObj_heap_same hl
      have d1 : (W.putObj (d + 1) (.loop { r0 with state := .busy })).heap[d]? = some (.deferred (some [])) := (World.putObj_heap_other (by omega)).trans q3
      refine wpIn_mono (hbody _ pre x _ (hI _ _ _ q1 k1) (hP _ _ _ _ hpx k1) (by simp; omega)) ?_
      have left : ∀ (c : Code) (W3 : World), KeepsOthers (W.putObj (d + 1) (.loop { r0 with state := .busy })) W3 → Ix c (pre ++ [x]) W3 →
          ∃ w', (Instr.endRound (d + 1) (some c)).run P W3 = .ok (.bool false) w' ∧ ∃ c, Ix c (pre ++ [x]) w' ∧ w'.heap[d + 1]? = some (.loop { r0 with state := .done, pending := some c }) ∧ w'.heap[d]? = some (.deferred (some [])) ∧ d ≤ w'.heap.size := by
        intro c W3 m1 m3
        have l3 := m1.same _ _ l1 rfl
        have d3 := m1.same _ _ d1 rfl
        have hend := run_endRound (P := P) (some c) l3
        have hl3 := (Array.getElem?_eq_some_iff.1 l3).1
        have k3 := Kc.put (n := n₀) (.loop { r0 with state := .done, pending := some c }) l3 rfl (by omega)
        exact ⟨_, hend, c, hIx _ _ _ _ m3 k3, World.putObj_heap_same hl3, (World.putObj_heap_other (by omega)).trans d3, by have := m1.size; simp at this ⊢; omega⟩
      intro e a3 W3 hp
      cases e with
      | normal =>
        obtain ⟨m1, m2, m3⟩ := hp
        have l3 := m1.same _ _ l1 rfl
        have d3 := m1.same _ _ d1 rfl
        have hend := run_endRound (P := P) none l3
        have hl3 := (Array.getElem?_eq_some_iff.1 l3).1
        have e9 : ({ ({ r0 with state := .busy } : Loop) with state := if (none : Option Code).isNone then .ready else .done, pending := none } : Loop) = r0 := by
          rw [← hr0]; rfl
        rw [e9] at hend
        have k3 := Kc.put (n := n₀) (.loop r0) l3 rfl (by omega)
        exact ⟨_, _, hend, .inl ⟨rfl, ⟨hI _ _ _ m3 k3, World.putObj_heap_same hl3, (World.putObj_heap_other (by omega)).trans d3, by have := m1.size; simp at this ⊢; omega⟩, (k1.b.trans m2).trans k3.b⟩⟩
      | ret =>
        obtain ⟨w', g1, g2⟩ := left _ _ hp.1 hp.2
        exact ⟨_, w', g1, .inr ⟨rfl, g2⟩⟩
      | exit id =>
        obtain ⟨w', g1, g2⟩ := left _ _ hp.1 hp.2
        exact ⟨_, w', g1, .inr ⟨rfl, g2⟩⟩
      | goto t => exact hp.elim
      | panic ch => exact hp.elim
      | outgrown => exact hp.elim
    · rintro e W2 ⟨⟨v, rfl⟩, ⟨xs, hS, q1, q2, q3, q4⟩ | ⟨xs, hS, c, q1, q2, q3, q4⟩⟩
      · have hend := run_endLoop (P := P) q2 (by rw [e3]; simp)
        rw [e7] at hend
        refine ⟨none, _, hend, ?_⟩
        exact hdone d xs _ (by omega) hS (hI _ _ _ q1 (Kc.put _ q2 rfl (by omega))) ((World.putObj_heap_other (by omega)).trans q3)
      · have hend := run_endLoop (P := P) q2 (by simp)
        refine ⟨some c, _, hend, ?_⟩
        exact hleft d xs c _ (by omega) hS (hIx _ _ _ _ q1 (Kc.put _ q2 rfl (by omega))) ((World.putObj_heap_other (by omega)).trans q3)
end Go.Proofs.YtahigmjpeicemaaDoor

/- A range over a function that has a box of its own, which it turns from round to round: a law of our own. -/
namespace Go.Proofs.YtahigmjpeicemaaDoor
open Go.RowKit

variable {F : Fence} {n : Nat} {P : Program}
/-- B has what A has in cells, but for the block X, and all that lies below n. -/
structure KcX (X n : Nat) (A B : World) : Prop where
  b : Below n A B
  c : ∀ (k : Nat) (cs : Array Value) (t : TypeId) (fr : Nat × Nat), k ≠ X → A.heap[k]? = some (Obj.cells cs t fr) → B.heap[k]? = some (Obj.cells cs t fr)
theorem KcX.of_kc {X n : Nat} {A B : World} (h : Kc n A B) : KcX X n A B := ⟨h.b, fun k _ _ _ _ hk => h.c k _ _ _ hk⟩
theorem KcX.of_onl {X n : Nat} {A B : World} (h : Onl (fun k => k = X) A B) (hn : n ≤ X) (hs : n ≤ A.heap.size) : KcX X n A B :=
  ⟨h.below hs (fun k hk => by omega), fun k _ _ _ hX hk => (h.block k (Array.getElem?_eq_some_iff.1 hk).1 hX).trans hk⟩
theorem KcX.trans {X n : Nat} {A B C : World} (h : KcX X n A B) (h' : KcX X n B C) : KcX X n A C := ⟨h.b.trans h'.b, fun k _ _ _ hX hk => h'.c k _ _ _ hX (h.c k _ _ _ hX hk)⟩
/-- What the function that is ranged over must do. -/
def SeqW {α : Type} (F : Fence) (n : Nat) (P : Program) (g : Nat) (lb : Array Value) (encs : α → Array Value) (n₀ : Nat) (Pre : List α → α → Nat → World → Prop) (S Sp : List α → Prop) (w : World) : Prop :=
  ∀ (l : Nat) (J Jx : Nat → List α → World → Prop) (W : World), Kc n₀ w W → n₀ ≤ W.heap.size → (∀ X pre A B, J X pre A → Onl (fun k => k = X) A B → J X pre B) → (∀ X pre A B, Jx X pre A → Onl (fun k => k = X) A B → Jx X pre B) →
    (∀ X pre x W1, J X pre W1 → X < W1.heap.size → Pre pre x X W1 → YieldAt F (n - 1) P l (encs x) W1 fun e W' => (e = .returned (.bool true) ∧ J X (pre ++ [x]) W' ∧ Below n₀ W1 W' ∧ W'.heap[X]? = W1.heap[X]?) ∨ (e = .returned (.bool false) ∧ Jx X (pre ++ [x]) W')) →
    (∀ X, W.heap.size ≤ X → J X [] W) → CallsIn F n P g (#[.func (.yield l) #[] #[]] ++ lb) W fun e W' => (∃ v, e = .returned v) ∧ ((∃ X xs, S xs ∧ J X xs W') ∨ ∃ X xs, Sp xs ∧ Jx X xs W')
/-- How a round ends. -/
def postW {α : Type} (n₀ X : Nat) (I : Nat → List α → World → Prop) (Ix : Nat → Code → List α → World → Prop) (xs : List α) (W : World) : Exit → Act → World → Prop
  | .normal, _, W' => KeepsOthers W W' ∧ Below n₀ W W' ∧ W'.heap[X]? = W.heap[X]? ∧ I X xs W'
  | .ret, _, W' => KeepsOthers W W' ∧ Ix X .ret xs W'
  | .exit id, _, W' => KeepsOthers W W' ∧ Ix X (.exit id) xs W'
  | _, _, _ => False
theorem wpIn_range_w {α : Type} {g : Operand} {ps : Array Tmp} {assign body : Code} {Q : Exit → Act → World → Prop} {a : Act} {w : World}
    (hro : F.round = none) (h1 : 1 ≤ n) {gf : Nat} {lb : Array Value} (hg : a.eval g = .func (.func gf) #[] lb) (hFg : F.fn gf) (eg : ∀ args w, (callFunc gf args).run P w = .ok (.enter gf args) w)
    {encs : α → Array Value} (hps : ∀ x, (encs x).size = ps.size) (I : Nat → List α → World → Prop) (Ix : Nat → Code → List α → World → Prop) (Pre : List α → α → Nat → World → Prop) (S Sp : List α → Prop)
    (n₀ : Nat) (hn₀ : n₀ ≤ w.heap.size) (hseq : SeqW F (n - 1) P gf lb encs n₀ Pre S Sp w)
    (hI : ∀ X pre A B, I X pre A → KcX X n₀ A B → I X pre B) (hIx : ∀ X c pre A B, Ix X c pre A → KcX X n₀ A B → Ix X c pre B) (hP : ∀ pre x X A B, Pre pre x X A → Kc n₀ A B → Pre pre x X B) (h0 : ∀ X, w.heap.size ≤ X → I X [] w) (a₁ : α → Nat → Act) (wA : α → World → World) (hA : ∀ x W, Below W.heap.size W (wA x W))
    (hassign : ∀ (l X : Nat) (pre : List α) (x : α) (W : World) (K : Act → World → Prop), Pre pre x X W → K (a₁ x W.heap.size) (wA x W) →
      assign.wpIn (F.inRound l) (n - 1 - 1) P (Exit.then K (fun _ _ _ => False)) { tmps := (ps.zip (encs x)).foldl (fun t (p, v) => t.setIfInBounds p v) a.tmps, defers := [] } W)
    (hbody : ∀ (l X : Nat) (pre : List α) (x : α) (W₁ W : World), I X pre W → Pre pre x X W → w.heap.size ≤ X → X < W₁.heap.size → W₁.heap.size ≤ W.heap.size → Kc n₀ (wA x W₁) W → body.wpIn (F.inRound l) (n - 1 - 1) P (postW n₀ X I Ix (pre ++ [x]) W) (a₁ x W₁.heap.size) W)
    (hdone : ∀ (D X : Nat) (xs : List α) (W : World), w.heap.size ≤ D → S xs → I X xs W → W.heap[D]? = some (.deferred (some [])) → Q .normal { a with defers := { target := .collected D, args := #[] } :: a.defers } W)
    (hleft : ∀ (D X : Nat) (xs : List α) (c : Code) (W : World), w.heap.size ≤ D → Sp xs → Ix X c xs W → W.heap[D]? = some (.deferred (some [])) → c.wpIn F n P Q { a with defers := { target := .collected D, args := #[] } :: a.defers } W) :
    (Code.rangeFunc g ps assign body).wpIn F n P Q a w := by
  refine wpIn_rangeFunc ?_
  intro fn hfn
  rw [hro]
  have hen := run_enterLoop_outer (P := P) (w := w) fn a.tmps ps assign body
  generalize hd : w.heap.size = d at *
  generalize hr0 : ({ state := .ready, pending := none, fn := fn, tmps := a.tmps, params := ps, assign := assign, body := body, defers := d } : Loop) = r0 at *
  have e1 : r0.fn = fn := by rw [← hr0]
  have e2 : r0.params = ps := by rw [← hr0]
  have e3 : r0.state = .ready := by rw [← hr0]
  have e4 : r0.tmps = a.tmps := by rw [← hr0]
  have e5 : r0.assign = assign := by rw [← hr0]
  have e6 : r0.body = body := by rw [← hr0]
  have e7 : r0.pending = none := by rw [← hr0]
  generalize hW : (w.alloc (.deferred (some []))).alloc (.loop r0) = W0 at *
  have hB : Below d w W0 := by
    rw [← hW]
    exact ((Below.refl d w).alloc (by omega) _).alloc (by simp; omega) _
  have hz : W0.heap.size = d + 2 := by rw [← hW]; simp; omega
  have hD0 : W0.heap[d]? = some (.deferred (some [])) := by
    rw [← hW, Below.heap_alloc _ _ _ (by simp; omega), ← hd]; exact World.alloc_heap_new w _
  have hL0 : W0.heap[d + 1]? = some (.loop r0) := by
    have := World.alloc_heap_new (w.alloc (.deferred (some []))) (.loop r0)
    rw [World.size_alloc, hd, hW] at this
    exact this
  refine ⟨d + 1, _, W0, { target := .fn (.func gf) lb, args := #[.func (.yield (d + 1)) #[] #[]] }, W0, gf, #[.func (.yield (d + 1)) #[] #[]] ++ lb, W0, hen, ?_, ?_, ?_, fun _ => h1, ?_⟩
  · simp only [resolve, hg]; simp [go_sem]
  · intro f' hf'; simp [Target.leads] at hf'; subst hf'; exact hFg
  · simp [invoke, go_sem, eg]
  · have hKw : Kc n₀ w W0 := ⟨hB.mono hn₀, fun k _ _ _ hk => (hB.block k (by have := (Array.getElem?_eq_some_iff.1 hk).1; omega)).trans hk⟩
    refine (hseq (d + 1) (fun X pre W => I X pre W ∧ W.heap[d + 1]? = some (.loop r0) ∧ W.heap[d]? = some (.deferred (some [])) ∧ d + 2 ≤ X ∧ n₀ ≤ W.heap.size)
      (fun X pre W => ∃ c, Ix X c pre W ∧ W.heap[d + 1]? = some (.loop { r0 with state := .done, pending := some c }) ∧ W.heap[d]? = some (.deferred (some [])) ∧ d + 2 ≤ X ∧ n₀ ≤ W.heap.size) W0 hKw (by omega) ?_ ?_ ?_ (fun X hX => ⟨hI X [] w W0 (h0 X (by omega)) (KcX.of_kc hKw), hL0, hD0, by omega, by omega⟩)).mono ?_
    · rintro X pre A B ⟨q1, q2, q3, q4, q5⟩ hb
      have hs := hb.size
      exact ⟨hI X pre A B q1 (KcX.of_onl hb (by omega) q5), (hb.block _ (Array.getElem?_eq_some_iff.1 q2).1 (by omega)).trans q2, (hb.block _ (Array.getElem?_eq_some_iff.1 q3).1 (by omega)).trans q3, q4, by omega⟩
    · rintro X pre A B ⟨c, q1, q2, q3, q4, q5⟩ hb
      have hs := hb.size
      exact ⟨c, hIx X c pre A B q1 (KcX.of_onl hb (by omega) q5), (hb.block _ (Array.getElem?_eq_some_iff.1 q2).1 (by omega)).trans q2, (hb.block _ (Array.getElem?_eq_some_iff.1 q3).1 (by omega)).trans q3, q4, by omega⟩
    · rintro X pre x W ⟨q1, q2, q3, q4, q5⟩ hXl hpx
      have hl := (Array.getElem?_eq_some_iff.1 q2).1
      have hy := run_yield (P := P) (args := encs x) q2 (by rw [e2]; exact hps x)
      rw [e1, e2, e4, e5, e6] at hy
      have hAx := hA x W
      have hAs := hAx.size
      have q2' : (wA x W).heap[d + 1]? = some (.loop r0) := (hAx.block _ hl).trans q2
      have q3' : (wA x W).heap[d]? = some (.deferred (some [])) := (hAx.block _ (Array.getElem?_eq_some_iff.1 q3).1).trans q3
      have hl' := (Array.getElem?_eq_some_iff.1 q2').1
      refine ⟨fn, _, assign, body, hy, roundIn_of_wpIn hfn (hassign _ X pre x W _ hpx ⟨_, run_beginRound q2' e3, ?_⟩)⟩
      have k0 : Kc n₀ W (wA x W) := Kc.of_below hAx (by omega)
      have k1' := Kc.put (n := n₀) (.loop { r0 with state := .busy }) q2' rfl (by omega)
      have k1 : Kc n₀ W ((wA x W).putObj (d + 1) (.loop { r0 with state := .busy })) := ⟨k0.b.trans k1'.b, fun k _ _ _ hk => k1'.c _ _ _ _ (k0.c _ _ _ _ hk)⟩
      have l1 : ((wA x W).putObj (d + 1) (.loop { r0 with state := .busy })).heap[d + 1]? = some (.loop { r0 with state := .busy }) := World.putObj_heap_same hl'
      have d1 : ((wA x W).putObj (d + 1) (.loop { r0 with state := .busy })).heap[d]? = some (.deferred (some [])) := (World.putObj_heap_other (by omega)).trans q3'
      have x1 : ((wA x W).putObj (d + 1) (.loop { r0 with state := .busy })).heap[X]? = W.heap[X]? := (World.putObj_heap_other (by omega)).trans (hAx.block X hXl)
      refine wpIn_mono (hbody _ X pre x W _ (hI X pre _ _ q1 (KcX.of_kc k1)) (hP _ _ _ _ _ hpx k1) (by omega) hXl (by simp; omega) k1') ?_
      have left : ∀ (c : Code) (W3 : World), KeepsOthers ((wA x W).putObj (d + 1) (.loop { r0 with state := .busy })) W3 → Ix X c (pre ++ [x]) W3 →
          ∃ w', (Instr.endRound (d + 1) (some c)).run P W3 = .ok (.bool false) w' ∧ ∃ c, Ix X c (pre ++ [x]) w' ∧ w'.heap[d + 1]? = some (.loop { r0 with state := .done, pending := some c }) ∧ w'.heap[d]? = some (.deferred (some [])) ∧ d + 2 ≤ X ∧ n₀ ≤ w'.heap.size := by
        intro c W3 m1 m3
        have l3 := m1.same _ _ l1 rfl
        have d3 := m1.same _ _ d1 rfl
        have hend := run_endRound (P := P) (some c) l3
        have hl3 := (Array.getElem?_eq_some_iff.1 l3).1
        have k3 := Kc.put (n := n₀) (.loop { r0 with state := .done, pending := some c }) l3 rfl (by omega)
        exact ⟨_, hend, c, hIx _ _ _ _ _ m3 (KcX.of_kc k3), World.putObj_heap_same hl3, (World.putObj_heap_other (by omega)).trans d3, q4, by have := m1.size; simp at this ⊢; omega⟩
      intro e a3 W3 hp
      cases e with
      | normal =>
        obtain ⟨m1, m2, mx, m3⟩ := hp
        have l3 := m1.same _ _ l1 rfl
        have d3 := m1.same _ _ d1 rfl
        have hend := run_endRound (P := P) none l3
        have hl3 := (Array.getElem?_eq_some_iff.1 l3).1
        have e9 : ({ ({ r0 with state := .busy } : Loop) with state := if (none : Option Code).isNone then .ready else .done, pending := none } : Loop) = r0 := by
          rw [← hr0]; rfl
        rw [e9] at hend
        have k3 := Kc.put (n := n₀) (.loop r0) l3 rfl (by omega)
        exact ⟨_, _, hend, .inl ⟨rfl, ⟨hI _ _ _ _ m3 (KcX.of_kc k3), World.putObj_heap_same hl3, (World.putObj_heap_other (by omega)).trans d3, q4, by have := m1.size; simp at this ⊢; omega⟩, (k1.b.trans m2).trans k3.b, (World.putObj_heap_other (by omega)).trans (mx.trans x1)⟩⟩
      | ret =>
        obtain ⟨w', g1, g2⟩ := left _ _ hp.1 hp.2
        exact ⟨_, w', g1, .inr ⟨rfl, g2⟩⟩
      | exit id =>
        obtain ⟨w', g1, g2⟩ := left _ _ hp.1 hp.2
        exact ⟨_, w', g1, .inr ⟨rfl, g2⟩⟩
      | goto t => exact hp.elim
      | panic ch => exact hp.elim
      | outgrown => exact hp.elim
    · rintro e W2 ⟨⟨v, rfl⟩, ⟨X, xs, hS, q1, q2, q3, q4, q5⟩ | ⟨X, xs, hS, c, q1, q2, q3, q4, q5⟩⟩
      · have hend := run_endLoop (P := P) q2 (by rw [e3]; simp)
        rw [e7] at hend
        refine ⟨none, _, hend, ?_⟩
        exact hdone d X xs _ (by omega) hS (hI _ _ _ _ q1 (KcX.of_kc (Kc.put _ q2 rfl (by omega)))) ((World.putObj_heap_other (by omega)).trans q3)
      · have hend := run_endLoop (P := P) q2 (by simp)
        refine ⟨some c, _, hend, ?_⟩
        exact hleft d X xs c _ (by omega) hS (hIx _ _ _ _ _ q1 (KcX.of_kc (Kc.put _ q2 rfl (by omega)))) ((World.putObj_heap_other (by omega)).trans q3)
end Go.Proofs.YtahigmjpeicemaaDoor
