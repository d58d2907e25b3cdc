/- BR1, joined. -/
import Derived.Test.YtoenijflijfogaaGreatRB47
/- Layer 17: the reference's Get (written by mkbr1.py). -/
namespace Go.Proofs.YtoenijflijfogaaGreat
open Go.RowKit

theorem right_t (D : List ByteArray) (t : Int) : rightBK D t 0 = (mayB D && isT t) := by
  unfold rightBK isT
  cases mayB D
  · rfl
  · rw [Bool.true_and, Bool.true_and, Bool.eq_iff_iff]
    simp only [Bool.and_eq_true, decide_eq_true_eq]
    omega
theorem box6 {w W : World} {g : Nat} {cur : Array Value} {T : TypeId} {vs : List Value} (h : StW w W g 0 cur T vs) (hb : cur.size = vs.length) : W.heap[g]? = some (.cells vs.toArray T) := box9 h hb
theorem no_text9 (r : It) (hr : ∃ a n c, r.v = .slice a n c) (i : Nat) (s : ByteArray) : (c9 r).toArray[i]? ≠ some (.string s) := by
  obtain ⟨v, D, f, z, g⟩ := r
  obtain ⟨a, n, c, rfl⟩ := hr
  match i with
  | 0 | 1 | 2 | 3 | 4 | 5 | 6 | 7 | 8 => simp [c9]
  | i + 9 => rw [Array.getElem?_eq_none (by simp [c9])]; simp
theorem sreads_row9 {w W : World} {g off : Nat} {T : TypeId} {vs : List Value} {r : It} {v : Value} {D : List ByteArray} (h : SReads w v D) (hx : w.heap[g]? = some (.cells (c9 r).toArray T)) (hW : StW w W g off (c9 r).toArray T vs) (hr : ∃ a n c, r.v = .slice a n c := by exact ⟨_, _, _, rfl⟩) : SReads W v D := by
  have hs := (hW.b 0 (Nat.zero_le _)).size
  rcases h with h | ⟨b, off, cap, h1, h2, h3, h4, h5, h6, h7⟩
  · exact .inl h
  · have hb : b ≠ g := fun e => by
      subst e
      have h0 := h6 0 h2
      rw [Go.Joins.cell_of_block hx] at h0
      exact no_text9 r hr _ _ h0
    refine .inr ⟨b, off, cap, h1, h2, h3, h4, Nat.lt_of_lt_of_le h5 hs, fun j hj => ?_, h7⟩
    rw [← h6 j hj]
    exact World.cell?_of_block (hW.o b hb)
/-- What the loop keeps: the row so far, but for what is known, and this beside it. -/
structure GtJ (D : List ByteArray) (t : Int) (xs : List It) (V : World) (k : Nat) (r : It) (z : Ag) (wr : World) : Prop where
  c : wr.heap[V.heap.size]? = some (.cells (c9 { r with a := z }).toArray 42)
  d : wr.heap[V.heap.size + 1]? = some (.cells (ag6 r.a).toArray 36)
  s : SReads V r.v r.D
  m : itR r = getF D t ((xs.map itR).take k)
  g : Gd r.a
  b : Below V.heap.size V wr
theorem GtJ.below {D : List ByteArray} {t : Int} {xs : List It} {V : World} {k : Nat} {r : It} {z : Ag} {wr W : World} (h : GtJ D t xs V k r z wr) (hb : Below wr.heap.size wr W) : GtJ D t xs V k r z W :=
  ⟨(hb.block _ (Array.getElem?_eq_some_iff.1 h.c).1).trans h.c, (hb.block _ (Array.getElem?_eq_some_iff.1 h.d).1).trans h.d, h.s, h.m, h.g, h.b.trans (hb.mono h.b.size)⟩
set_option maxRecDepth 100000 in
set_option maxHeartbeats 8000000 in
theorem refGet17_any (R : Rl) (wm : Int) (v : Value) (L : List En) (dv : Value) (D : List ByteArray) (t : Int) (w : World) (hL : Lies R w.heap.size w) (hE : EReads w v L) (hl : L.length ≤ 100000) (hk : ∀ x ∈ L, x.1.length ≤ 1000) (hD : SReads w dv D) (ht1 : -9223372036854775808 ≤ t) (ht2 : t ≤ 9223372036854775807) :
    Calls Tryz.prog 11 #[.agg #[.slice R.a R.len R.cap, .int .i64 R.kp], .int .i64 wm, v, dv, .int .i64 t] w (G17 R wm L D t w) := by
  obtain ⟨a, cap, rfl, hm1, hm2⟩ := hE.form
  obtain ⟨da, dc, rfl, hdl⟩ := hD.form
  unfold maxLen at hdl
  obtain ⟨w1, HW1⟩ := hid_ex ((w.alloc (.cells #[.slice R.a R.len R.cap, .int .i64 R.kp] 24)).alloc (.cells #[.slice none 0 0, .int .i64 0, .int .i64 0, .int .u64 0, .bool false, .int .i64 0, .int .u64 0, .int .i64 0, .int .i64 0] 42))
  have hb1 : Below w.heap.size w w1 := by rw [HW1.out]; exact ((Below.refl _ _).alloc (Nat.le_refl _) _).alloc (by simp) _
  have hX1 : w1.heap[w.heap.size]? = some (.cells #[.slice R.a R.len R.cap, .int .i64 R.kp] 24) := by rw [HW1.out]; exact (Below.heap_alloc _ _ _ (by simp)).trans (heap_alloc_new _ _)
  have HZ1 : Hid (w1.heap[w.heap.size + 1]? = some (.cells (c9 itZ).toArray 42)) := by
    rw [HW1.out, cz9]; unfold Hid
    have := heap_alloc_new (w.alloc (.cells #[.slice R.a R.len R.cap, .int .i64 R.kp] 24)) (.cells #[.slice none 0 0, .int .i64 0, .int .i64 0, .int .u64 0, .bool false, .int .i64 0, .int .u64 0, .int .i64 0, .int .i64 0] 42)
    rw [World.size_alloc] at this; exact this
  have HB1 : Hid (Below w.heap.size w w1) := hb1
  have HF : Hid (Calls Tryz.prog 26 #[.agg #[.slice R.a R.len R.cap, .int .i64 R.kp], .int .i64 wm, .slice a L.length cap] w1 (RowsP R wm L w1)) := refRows17_any R wm _ L _ (hL.at hb1) (hE.below hb1) hl hk
  have HD1 : Hid (SReads w1 (.slice da D.length dc) D) := hD.below hb1
  have HNB : Hid ((rowsE R wm L).length ≤ 100000) := Nat.le_trans (rowsE_len R wm L) hl
  have c0 := (cell_row hX1 0 (by simp)).1
  have c1 := (cell_row hX1 1 (by simp)).1
  simp only [List.getElem_toArray, List.getElem_cons_zero, List.getElem_cons_succ] at c0 c1
  rw [HW1.out] at c0 c1
  clear hL hE hl hk hD hb1 hX1
  obtain ⟨dn, Hdn⟩ := hid_ex D.length
  rw [← Hdn.out] at HD1 hdl ⊢
  go_enter Tryz.func11, Tryz.ntmps11
  go_wp2_with fail
  rw [← HW1.out]
  clear HW1 c0 c1
  refine HF.out.mono ?_
  clear HF
  rintro e w2 ⟨hb2, v2, xs, rfl, hT, hm, hok⟩
  have HX2 : Hid (w2.heap[w.heap.size + 1]? = some (.cells (c9 itZ).toArray 42)) := (hb2.block _ (Array.getElem?_eq_some_iff.1 HZ1.out).1).trans HZ1.out
  have HB2 : Hid (Below w.heap.size w w2) := HB1.out.trans (hb2.mono HB1.out.size)
  have HD2 : Hid (SReads w2 (.slice da dn dc) D) := HD1.out.below hb2
  obtain ⟨xa, xc, hxv, -, -⟩ := hT.form17
  subst hxv
  obtain ⟨c, Hc⟩ := hid_ex (chkF R wm L)
  rw [← Hc.out]
  by_cases hne : c = 0
  · have HZ : Hid (chkF R wm L = 0) := by rw [← Hc.out]; exact hne
    have HM : Hid (xs.map itR = rowsE R wm L) := by
      have h1 := hm
      unfold rwQ at h1
      rw [if_pos HZ.out] at h1
      exact h1
    have HOK : Hid (∀ x ∈ xs, RwOk x) := hok
    have hnl : xs.length ≤ 100000 := by have := HNB.out; rw [← HM.out, List.length_map] at this; exact this
    obtain ⟨n, Hn⟩ := hid_ex xs.length
    rw [← Hn.out] at hT hnl ⊢
    have HT2 : Hid (TReads w2 (.slice xa n xc) xs) := hT
    have hrb := right_t D t
    have HFT : Hid (Calls Tryz.prog 27 #[.slice da dn dc] w2 fun e w' => e = .returned (.bool (mayB D)) ∧ w' = w2) := fits_anyK _ D w2 HD2.out
    subst hne
    clear hT hm hok hb2 HZ1 HB1 HD1 Hc HNB
    obtain ⟨mb, Hmb⟩ := hid_ex (mayB D)
    obtain ⟨tb, Htb⟩ := hid_ex (isT t)
    rw [← Hmb.out] at HFT
    rw [← Hmb.out, ← Htb.out] at hrb
    have HRB : Hid (rightBK D t 0 = (mb && tb)) := hrb
    clear hrb
    go_wp2_with fail
    refine HFT.out.mono ?_
    rintro e w' ⟨rfl, hw'⟩
    subst w'
    clear HFT
    cases mb with
    | false =>
      have HEnd : Hid (∀ W, Below w.heap.size w W → G17 R wm L D t w (.returned (.tuple #[.agg (c9 itZ).toArray, .bool false, .int .i64 110])) W) := fun W hW => ⟨hW, .inr (.inl ⟨HZ.out, HRB.out, rfl⟩)⟩
      go_wp2_with (refine stop_store 42 _ _ rfl ?_)
      refine Stop.of ?_
      refine wpList_storeN rfl _ _ _ rfl (w.heap.size + 1) 0 (c9 itZ) rfl rfl _ _ HX2.out (by simp) (by kernel_rfl) (by kernel_rfl) ?_
      intro V hV
      have hx := box9 hV rfl
      have f := fun i hi => (cell_row hx i hi).1
      have f0 := f 0 (by simp [c9])
      have f1 := f 1 (by simp [c9])
      have f2 := f 2 (by simp [c9])
      have f3 := f 3 (by simp [c9])
      have f4 := f 4 (by simp [c9])
      have f5 := f 5 (by simp [c9])
      have f6 := f 6 (by simp [c9])
      have f7 := f 7 (by simp [c9])
      have f8 := f 8 (by simp [c9])
      simp only [c9, itZ, List.getElem_toArray, List.getElem_cons_zero, List.getElem_cons_succ] at f0 f1 f2 f3 f4 f5 f6 f7 f8
      have HE1 : Hid (G17 R wm L D t w (.returned (.tuple #[.agg (c9 itZ).toArray, .bool false, .int .i64 110])) V) := HEnd.out V (HB2.out.trans (hV.b _ (Nat.le_succ _)))
      clear hV hx f
      go_wp2_with fail
      refine bodyPost_ret (v := .tuple #[.agg (c9 itZ).toArray, .bool false, .int .i64 110]) (by simp [results, Tryz.results11, go_sem, f0, f1, f2, f3, f4, f5, f6, f7, f8, c9, itZ]) rfl ?_
      exact HE1.out
    | true =>
      have HTC : Hid (Calls Tryz.prog 28 #[.int .i64 t] w2 fun e w' => e = .returned (.bool tb) ∧ w' = w2) := by rw [Htb.out]; exact refTime_any t w2
      go_wp2_with fail
      refine HTC.out.mono ?_
      rintro e w' ⟨rfl, hw'⟩
      subst w'
      clear HTC
      cases tb with
      | false =>
        have HEnd : Hid (∀ W, Below w.heap.size w W → G17 R wm L D t w (.returned (.tuple #[.agg (c9 itZ).toArray, .bool false, .int .i64 110])) W) := fun W hW => ⟨hW, .inr (.inl ⟨HZ.out, HRB.out, rfl⟩)⟩
        go_wp2_with (refine stop_store 42 _ _ rfl ?_)
        refine Stop.of ?_
        refine wpList_storeN rfl _ _ _ rfl (w.heap.size + 1) 0 (c9 itZ) rfl rfl _ _ HX2.out (by simp) (by kernel_rfl) (by kernel_rfl) ?_
        intro V hV
        have hx := box9 hV rfl
        have f := fun i hi => (cell_row hx i hi).1
        have f0 := f 0 (by simp [c9])
        have f1 := f 1 (by simp [c9])
        have f2 := f 2 (by simp [c9])
        have f3 := f 3 (by simp [c9])
        have f4 := f 4 (by simp [c9])
        have f5 := f 5 (by simp [c9])
        have f6 := f 6 (by simp [c9])
        have f7 := f 7 (by simp [c9])
        have f8 := f 8 (by simp [c9])
        simp only [c9, itZ, List.getElem_toArray, List.getElem_cons_zero, List.getElem_cons_succ] at f0 f1 f2 f3 f4 f5 f6 f7 f8
        have HE1 : Hid (G17 R wm L D t w (.returned (.tuple #[.agg (c9 itZ).toArray, .bool false, .int .i64 110])) V) := HEnd.out V (HB2.out.trans (hV.b _ (Nat.le_succ _)))
        clear hV hx f
        go_wp2_with fail
        refine bodyPost_ret (v := .tuple #[.agg (c9 itZ).toArray, .bool false, .int .i64 110]) (by simp [results, Tryz.results11, go_sem, f0, f1, f2, f3, f4, f5, f6, f7, f8, c9, itZ]) rfl ?_
        exact HE1.out
      | true =>
        have htt : 0 ≤ t ∧ t ≤ 1099511627776 := by
          have h1 := Htb.out
          unfold isT at h1
          simpa using h1.symm
        obtain ⟨ht3, ht4⟩ := htt
        obtain ⟨w4, HW4⟩ := hid_ex ((w2.alloc (.cells #[.slice none 0 0, .int .i64 0, .int .i64 0, .int .u64 0, .bool false, .int .i64 0, .int .u64 0, .int .i64 0, .int .i64 0] 42)).alloc (.cells #[.int .u64 0, .bool false, .int .i64 0, .int .u64 0, .int .i64 0, .int .i64 0] 36))
        have hb4 : Below w2.heap.size w2 w4 := by rw [HW4.out]; exact ((Below.refl _ _).alloc (Nat.le_refl _) _).alloc (by simp) _
        have HI0 : Hid (GtJ D t xs w2 0 itZ agZ w4) := by
          refine ⟨?_, ?_, .inl ⟨rfl, none, 0, rfl, fun _ => rfl⟩, by rw [List.take_zero]; rfl, Gd.zero, hb4⟩
          · rw [HW4.out]; exact (Below.heap_alloc _ _ _ (by simp)).trans (heap_alloc_new _ _)
          · rw [HW4.out]
            have := heap_alloc_new (w2.alloc (.cells #[.slice none 0 0, .int .i64 0, .int .i64 0, .int .u64 0, .bool false, .int .i64 0, .int .u64 0, .int .i64 0, .int .i64 0] 42)) (.cells #[.int .u64 0, .bool false, .int .i64 0, .int .u64 0, .int .i64 0, .int .i64 0] 36)
            rw [World.size_alloc] at this; exact this
        clear hb4
        go_wp2_with fail
        rw [← HW4.out]
        clear HW4
        go_loopw [17] (fun i wr => ∃ (k : Nat) (r : It) (z : Ag), k ≤ n ∧ i = .int .i64 (k : Int) ∧ Hid (GtJ D t xs w2 k r z wr)) (fun i _ => n - (intOf i).toNat)
        case atStart => exact ⟨0, itZ, agZ, by omega, rfl, HI0⟩
        case round =>
          clear HI0
          obtain ⟨k, r, z, hk, rfl, HC⟩ := hrel
          obtain ⟨rv, rD, rf, rz, ra⟩ := r
          by_cases hlt : k < n
          · have hlt' : (k : Int) < (n : Int) := by omega
            have hkx : k < xs.length := by rw [← Hn.out]; exact hlt
            have hok := HOK.out xs[k] (List.getElem_mem hkx)
            have hsn := getF_snoc (D := D) (t := t) hkx
            obtain ⟨x, Hx⟩ := hid_ex xs[k]
            rw [← Hx.out] at hok hsn
            obtain ⟨xv, xD, xf, xz, xg⟩ := x
            obtain ⟨b, o, rfl, hn9, hsr⟩ := HT2.out.nine hkx Hx.out.symm
            obtain ⟨va, vc, hv, -⟩ := hsr.form
            obtain ⟨xn, Hxn⟩ := hid_ex xD.length
            rw [← Hxn.out] at hv
            subst hv
            have HSX : Hid (SReads w2 (.slice va xn vc) xD) := hsr
            have HNr := hn9.below HC.out.b
            have HGA : Hid (Gd xg) := hok.a
            have hxf : 0 ≤ xf ∧ xf ≤ 1099511627776 := hok.f
            have hxz : 1 ≤ xz ∧ xz ≤ 1099511627776 := hok.z
            have hmm := HC.out.m
            have HLT : Hid (w2.heap.size + 1 < wr.heap.size) := (Array.getElem?_eq_some_iff.1 HC.out.d).1
            have HNO : Hid (¬ (xD = D ∧ xf ≤ t ∧ t < xf + xz) → (⟨rD, rf, rz, ra⟩ : Rw) = getF D t ((xs.map itR).take (k + 1))) := fun h => by
              rw [hsn, ← hmm]; exact (getS_no (x := ⟨xD, xf, xz, xg⟩) h).symm
            have HBG : Hid (xD = D ∧ xf ≤ t ∧ t < xf + xz → rz < xz → (⟨xD, xf, xz, mrg ra xg⟩ : Rw) = getF D t ((xs.map itR).take (k + 1))) := fun h h2 => by
              rw [hsn, ← hmm]; exact (getS_big (r := ⟨rD, rf, rz, ra⟩) (x := ⟨xD, xf, xz, xg⟩) h h2).symm
            have HOL : Hid (xD = D ∧ xf ≤ t ∧ t < xf + xz → ¬ rz < xz → (⟨rD, rf, rz, mrg ra xg⟩ : Rw) = getF D t ((xs.map itR).take (k + 1))) := fun h h2 => by
              rw [hsn, ← hmm]; exact (getS_old (r := ⟨rD, rf, rz, ra⟩) (x := ⟨xD, xf, xz, xg⟩) h h2).symm
            obtain ⟨y0, y1, y2, y3, y4, y5, y6, y7, y8, -⟩ := HNr
            obtain ⟨w5, HW5⟩ := hid_ex (wr.alloc (.cells #[.slice va xn vc, .int .i64 xf, .int .i64 (xz : Int), .int .u64 xg.c, .bool xg.o, .int .i64 (hi xg.s), .int .u64 (lo xg.s), .int .i64 xg.mn, .int .i64 xg.mx] 42))
            have hb5 : Below wr.heap.size wr w5 := by rw [HW5.out]; exact new_below _ _
            have HX5 : Hid (w5.heap[wr.heap.size]? = some (.cells #[.slice va xn vc, .int .i64 xf, .int .i64 (xz : Int), .int .u64 xg.c, .bool xg.o, .int .i64 (hi xg.s), .int .u64 (lo xg.s), .int .i64 xg.mn, .int .i64 xg.mx] 42)) := by rw [HW5.out]; exact heap_alloc_new _ _
            have HC5 : Hid (GtJ D t xs w2 k ⟨rv, rD, rf, rz, ra⟩ z w5) := HC.out.below hb5
            obtain ⟨cm, Hcm⟩ := hid_ex (cmpL xD D)
            have HCM : Hid (cm = 0 ↔ xD = D) := by unfold Hid; rw [Hcm.out]; exact cmpL_zero _ _
            have HOR : Hid (Calls Tryz.prog 18 #[.slice va xn vc, .slice da dn dc] w5 fun e w' => e = .returned (.int .i64 cm) ∧ Below w5.heap.size w5 w') := by
              rw [Hcm.out]
              exact order_anyK _ _ xD D w5 (HSX.out.below HC5.out.b) (HD2.out.below HC5.out.b)
            have b0 := (cell_row HX5.out 0 (by simp)).1
            simp only [List.getElem_toArray, List.getElem_cons_zero] at b0
            rw [HW5.out] at b0
            clear hb5 hsr hok hsn hmm hn9 Hx Hxn Hcm HC
            go_wp2_with fail
            rw [← HW5.out]
            clear HW5 b0 y0 y1 y2 y3 y4 y5 y6 y7 y8
            refine HOR.out.mono ?_
            clear HOR
            rintro e w6 ⟨rfl, hb6⟩
            have HX6 : Hid (w6.heap[wr.heap.size]? = some (.cells #[.slice va xn vc, .int .i64 xf, .int .i64 (xz : Int), .int .u64 xg.c, .bool xg.o, .int .i64 (hi xg.s), .int .u64 (lo xg.s), .int .i64 xg.mn, .int .i64 xg.mx] 42)) := (hb6.block _ (Array.getElem?_eq_some_iff.1 HX5.out).1).trans HX5.out
            have HC6 : Hid (GtJ D t xs w2 k ⟨rv, rD, rf, rz, ra⟩ z w6) := HC5.out.below hb6
            clear hb6 HX5 HC5
            have d1 := (cell_row HX6.out 1 (by simp)).1
            have d2 := (cell_row HX6.out 2 (by simp)).1
            have d3 := (cell_row HX6.out 3 (by simp)).1
            have d4 := (cell_row HX6.out 4 (by simp)).1
            have d5 := (cell_row HX6.out 5 (by simp)).1
            have d6 := (cell_row HX6.out 6 (by simp)).1
            have d7 := (cell_row HX6.out 7 (by simp)).1
            have d8 := (cell_row HX6.out 8 (by simp)).1
            simp only [List.getElem_toArray, List.getElem_cons_zero, List.getElem_cons_succ] at d1 d2 d3 d4 d5 d6 d7 d8
            by_cases hcm : cm = 0
            · have hcb : (cm == 0) = true := by simp [hcm]
              have HDe : Hid (xD = D) := HCM.out.1 hcm
              by_cases hle : xf ≤ t
              · have hwr : IntKind.i64.wrap (t - xf) = t - xf := by
                  simp [IntKind.wrap, IntKind.bits, IntKind.signed]; omega
                by_cases hzz : t - xf < (xz : Int)
                · have HIN : Hid (xD = D ∧ xf ≤ t ∧ t < xf + xz) := ⟨HDe.out, hle, by omega⟩
                  have HMC : Hid (Calls Tryz.prog 29 #[.agg #[.int .u64 ra.c, .bool ra.o, .int .i64 (hi ra.s), .int .u64 (lo ra.s), .int .i64 ra.mn, .int .i64 ra.mx], .agg #[.int .u64 xg.c, .bool xg.o, .int .i64 (hi xg.s), .int .u64 (lo xg.s), .int .i64 xg.mn, .int .i64 xg.mx]] w6 fun e w' => e = .returned (.agg #[.int .u64 (mrg ra xg).c, .bool (mrg ra xg).o, .int .i64 (hi (mrg ra xg).s), .int .u64 (lo (mrg ra xg).s), .int .i64 (mrg ra xg).mn, .int .i64 (mrg ra xg).mx]) ∧ Below w6.heap.size w6 w') :=
                    refMerge_any ra xg HC6.out.g.c.1 HC6.out.g.c.2 HGA.out.c.1 HGA.out.c.2 (gd_over HC6.out.g) (gd_over HGA.out) w6
                  have HGM : Hid (Gd (mrg ra xg)) := HC6.out.g.mrg HGA.out
                  have q := fun i hi => (cell_row HC6.out.d i hi).1
                  have q0 := q 0 (by simp [ag6])
                  have q1 := q 1 (by simp [ag6])
                  have q2 := q 2 (by simp [ag6])
                  have q3 := q 3 (by simp [ag6])
                  have q4 := q 4 (by simp [ag6])
                  have q5 := q 5 (by simp [ag6])
                  simp only [ag6, List.getElem_toArray, List.getElem_cons_zero, List.getElem_cons_succ] at q0 q1 q2 q3 q4 q5
                  clear q HCM HNO
                  go_wp2_with fail
                  refine HMC.out.mono ?_
                  clear HMC q0 q1 q2 q3 q4 q5 d1 d2 d3 d4 d5 d6 d7 d8
                  rintro e w7 ⟨rfl, hb7⟩
                  have HX7 : Hid (w7.heap[wr.heap.size]? = some (.cells #[.slice va xn vc, .int .i64 xf, .int .i64 (xz : Int), .int .u64 xg.c, .bool xg.o, .int .i64 (hi xg.s), .int .u64 (lo xg.s), .int .i64 xg.mn, .int .i64 xg.mx] 42)) := (hb7.block _ (Array.getElem?_eq_some_iff.1 HX6.out).1).trans HX6.out
                  have HC7 : Hid (GtJ D t xs w2 k ⟨rv, rD, rf, rz, ra⟩ z w7) := HC6.out.below hb7
                  obtain ⟨mg, Hmg⟩ := hid_ex (mrg ra xg)
                  rw [← Hmg.out] at HGM HBG HOL ⊢
                  clear hb7 HX6 HC6
                  go_wp2_with (refine stop_store 36 (.tmp 16) _ rfl ?_)
                  refine Stop.of ?_
                  refine wpList_storeN rfl _ _ _ rfl (w2.heap.size + 1) 0 (ag6 mg) rfl rfl _ _ HC7.out.d (by simp [ag6]) (by kernel_rfl) (by kernel_rfl) ?_
                  intro W1 hW1
                  have hwl : w2.heap.size < wr.heap.size ∧ w2.heap.size + 1 < wr.heap.size := by
                    have h1 := HLT.out
                    omega
                  have HK1 : Hid (W1.heap[w2.heap.size + 1]? = some (.cells (ag6 mg).toArray 36)) := box6 hW1 rfl
                  have HX8 : Hid (W1.heap[wr.heap.size]? = some (.cells #[.slice va xn vc, .int .i64 xf, .int .i64 (xz : Int), .int .u64 xg.c, .bool xg.o, .int .i64 (hi xg.s), .int .u64 (lo xg.s), .int .i64 xg.mn, .int .i64 xg.mx] 42)) := (hW1.o _ (by omega)).trans HX7.out
                  have HCc : Hid (W1.heap[w2.heap.size]? = some (.cells (c9 ⟨rv, rD, rf, rz, z⟩).toArray 42)) := (hW1.o _ (by omega)).trans HC7.out.c
                  have HBW : Hid (Below w2.heap.size w2 W1) := HC7.out.b.trans (hW1.b _ (by omega))
                  have HSV : Hid (SReads w2 rv rD) := HC7.out.s
                  have d0 := (cell_row HX8.out 0 (by simp)).1
                  have d1 := (cell_row HX8.out 1 (by simp)).1
                  have d2 := (cell_row HX8.out 2 (by simp)).1
                  have d3 := (cell_row HX8.out 3 (by simp)).1
                  have d4 := (cell_row HX8.out 4 (by simp)).1
                  have d5 := (cell_row HX8.out 5 (by simp)).1
                  have d6 := (cell_row HX8.out 6 (by simp)).1
                  have d7 := (cell_row HX8.out 7 (by simp)).1
                  have d8 := (cell_row HX8.out 8 (by simp)).1
                  simp only [List.getElem_toArray, List.getElem_cons_zero, List.getElem_cons_succ] at d0 d1 d2 d3 d4 d5 d6 d7 d8
                  have q2 := (cell_row HCc.out 2 (by simp [c9])).1
                  simp only [c9, List.getElem_toArray, List.getElem_cons_zero, List.getElem_cons_succ] at q2
                  clear hW1 HX7 HC7
                  by_cases hbg : rz < xz
                  · have hbg' : (rz : Int) < (xz : Int) := by omega
                    have HYY : Hid ((⟨xD, xf, xz, mg⟩ : Rw) = getF D t ((xs.map itR).take (k + 1))) := HBG.out HIN.out hbg
                    clear HBG HOL hbg
                    go_wp2_with (refine stop_store 42 (.tmp 15) _ rfl ?_)
                    refine Stop.of ?_
                    refine wpList_storeN rfl _ _ _ rfl w2.heap.size 0 (c9 ⟨.slice va xn vc, xD, xf, xz, xg⟩) rfl rfl _ _ HCc.out (by simp [c9]) (by kernel_rfl) (by kernel_rfl) ?_
                    intro W2 hW2
                    have HN : Hid (GtJ D t xs w2 (k + 1) ⟨.slice va xn vc, xD, xf, xz, mg⟩ xg W2) := ⟨box9 hW2 (by simp [c9]), (hW2.o _ (by omega)).trans HK1.out, HSX.out, HYY.out, HGM.out, HBW.out.trans (hW2.b _ (Nat.le_refl _))⟩
                    clear hW2
                    go_wp2_with fail
                    go_roundw
                    case rel => exact ⟨k + 1, _, _, by omega, by go_num, HN⟩
                    case measure => simp [intOf]; omega
                  · have hbg' : ¬ (rz : Int) < (xz : Int) := by omega
                    have HYY : Hid ((⟨rD, rf, rz, mg⟩ : Rw) = getF D t ((xs.map itR).take (k + 1))) := HOL.out HIN.out hbg
                    have HN : Hid (GtJ D t xs w2 (k + 1) ⟨rv, rD, rf, rz, mg⟩ z W1) := ⟨HCc.out, HK1.out, HSV.out, HYY.out, HGM.out, HBW.out⟩
                    clear HBG HOL hbg
                    go_wp2_with fail
                    go_roundw
                    case rel => exact ⟨k + 1, _, _, by omega, by go_num, HN⟩
                    case measure => simp [intOf]; omega
                · have HN : Hid (GtJ D t xs w2 (k + 1) ⟨rv, rD, rf, rz, ra⟩ z w6) := ⟨HC6.out.c, HC6.out.d, HC6.out.s, HNO.out (fun h => hzz (by omega)), HC6.out.g, HC6.out.b⟩
                  clear HC6 HCM HNO HBG HOL
                  go_wp2_with fail
                  go_roundw
                  case rel => exact ⟨k + 1, _, _, by omega, by go_num, HN⟩
                  case measure => simp [intOf]; omega
              · have HN : Hid (GtJ D t xs w2 (k + 1) ⟨rv, rD, rf, rz, ra⟩ z w6) := ⟨HC6.out.c, HC6.out.d, HC6.out.s, HNO.out (fun h => hle h.2.1), HC6.out.g, HC6.out.b⟩
                clear HC6 HCM HNO HBG HOL
                go_wp2_with fail
                go_roundw
                case rel => exact ⟨k + 1, _, _, by omega, by go_num, HN⟩
                case measure => simp [intOf]; omega
            · have hcb : (cm == 0) = false := by simp [hcm]
              have HN : Hid (GtJ D t xs w2 (k + 1) ⟨rv, rD, rf, rz, ra⟩ z w6) := ⟨HC6.out.c, HC6.out.d, HC6.out.s, HNO.out (fun h => hcm (HCM.out.2 h.1)), HC6.out.g, HC6.out.b⟩
              clear HC6 HCM HNO HBG HOL
              go_wp2_with fail
              go_roundw
              case rel => exact ⟨k + 1, _, _, by omega, by go_num, HN⟩
              case measure => simp [intOf]; omega
          · obtain rfl : k = n := by omega
            have hlt' : ¬ (k : Int) < (k : Int) := by omega
            obtain ⟨va, vc, hrv, _⟩ := HC.out.s.form
            simp only at hrv
            subst hrv
            have HXr : Hid (wr.heap[w.heap.size + 1]? = some (.cells (c9 itZ).toArray 42)) := (HC.out.b.block _ (Array.getElem?_eq_some_iff.1 HX2.out).1).trans HX2.out
            have HBr : Hid (Below w.heap.size w wr) := HB2.out.trans (HC.out.b.mono HB2.out.size)
            have HSr : Hid (SReads wr (.slice va rD.length vc) rD) := HC.out.s.below HC.out.b
            have HMr : Hid (itR ⟨(.slice va rD.length vc), rD, rf, rz, ra⟩ = getF D t (rowsE R wm L)) := by
              have h1 := HC.out.m
              rw [List.take_of_length_le (by rw [List.length_map, Hn.out]; exact Nat.le_refl _), HM.out] at h1
              exact h1
            have HCc : Hid (wr.heap[w2.heap.size]? = some (.cells (c9 ⟨.slice va rD.length vc, rD, rf, rz, z⟩).toArray 42)) := HC.out.c
            have q := fun i hi => (cell_row HC.out.d i hi).1
            have q0 := q 0 (by simp [ag6])
            have q1 := q 1 (by simp [ag6])
            have q2 := q 2 (by simp [ag6])
            have q3 := q 3 (by simp [ag6])
            have q4 := q 4 (by simp [ag6])
            have q5 := q 5 (by simp [ag6])
            simp only [ag6, List.getElem_toArray, List.getElem_cons_zero, List.getElem_cons_succ] at q0 q1 q2 q3 q4 q5
            have hlo : w.heap.size + 1 < w2.heap.size := (Array.getElem?_eq_some_iff.1 HX2.out).1
            clear q HC HM Hn HT2 HD2 HOK HX2 HB2
            go_wp2_with (refine stop_store 36 _ _ rfl ?_)
            refine Stop.of ?_
            refine wpList_storeN rfl _ _ _ rfl w2.heap.size 3 (ag6 ra) rfl rfl _ _ HCc.out (by simp [c9, ag6]) (by kernel_rfl) (by kernel_rfl) ?_
            intro W1 hW1
            have HC1 : Hid (W1.heap[w2.heap.size]? = some (.cells (c9 ⟨.slice va rD.length vc, rD, rf, rz, ra⟩).toArray 42)) := box_agg hW1
            have HX1' : Hid (W1.heap[w.heap.size + 1]? = some (.cells (c9 itZ).toArray 42)) := (hW1.o _ (by omega)).trans HXr.out
            have HB1' : Hid (Below w.heap.size w W1) := HBr.out.trans (hW1.b _ (by omega))
            have HS1 : Hid (SReads W1 (.slice va rD.length vc) rD) := sreads_row9 HSr.out HCc.out hW1
            have d := fun i hi => (cell_row HC1.out i hi).1
            have d0 := d 0 (by simp [c9])
            have d1 := d 1 (by simp [c9])
            have d2 := d 2 (by simp [c9])
            have d3 := d 3 (by simp [c9])
            have d4 := d 4 (by simp [c9])
            have d5 := d 5 (by simp [c9])
            have d6 := d 6 (by simp [c9])
            have d7 := d 7 (by simp [c9])
            have d8 := d 8 (by simp [c9])
            simp only [c9, List.getElem_toArray, List.getElem_cons_zero, List.getElem_cons_succ] at d0 d1 d2 d3 d4 d5 d6 d7 d8
            clear hW1 d q0 q1 q2 q3 q4 q5 HXr HBr HSr HCc
            go_wp2_with fail
            refine wp_region_noPanic ?_
            refine wp_region_S 5 (fun w' => w'.cell? ⟨w2.heap.size, 0, none⟩ = some (.slice va rD.length vc) ∧ w'.cell? ⟨w2.heap.size, 1, none⟩ = some (.int .i64 rf) ∧ w'.cell? ⟨w2.heap.size, 2, none⟩ = some (.int .i64 (rz : Int)) ∧ w'.cell? ⟨w2.heap.size, 3, none⟩ = some (.int .u64 ra.c) ∧ w'.cell? ⟨w2.heap.size, 4, none⟩ = some (.bool ra.o) ∧ w'.cell? ⟨w2.heap.size, 5, none⟩ = some (.int .i64 (hi ra.s)) ∧ w'.cell? ⟨w2.heap.size, 6, none⟩ = some (.int .u64 (lo ra.s)) ∧ w'.cell? ⟨w2.heap.size, 7, none⟩ = some (.int .i64 ra.mn) ∧ w'.cell? ⟨w2.heap.size, 8, none⟩ = some (.int .i64 ra.mx)) (fun _ => True) (by kernel_rfl) ?_ ?_ (fun hHeld => ?_)
            · exact ⟨d0, d1, d2, d3, d4, d5, d6, d7, d8⟩
            · trivial
            refine wpAnyS_take (i := 0) (v := .agg #[(.slice va rD.length vc), .int .i64 rf, .int .i64 (rz : Int), .int .u64 ra.c, .bool ra.o, .int .i64 (hi ra.s), .int .u64 (lo ra.s), .int .i64 ra.mn, .int .i64 ra.mx]) _ rfl (by kernel_rfl) (by kernel_rfl) (by kernel_rfl) (by kernel_rfl) (by kernel_rfl) rfl (fun _ _ _ h => h) (Or.inl ⟨by rfl, ?_⟩) hHeld (fun hHeld => ?_)
            · (intro w1 hSw; have hSw := hSw.1; (try dsimp only at hSw); go_simp)
            simp only [List.getElem_toArray, List.getElem_cons_zero, Act.put, List.setIfInBounds_toArray, List.set_cons_zero, List.set_cons_succ]
            refine wpAnyS_take (i := 1) (v := .pointer (some ⟨w2.heap.size, 2, none⟩)) _ rfl (by kernel_rfl) (by kernel_rfl) (by kernel_rfl) (by kernel_rfl) (by kernel_rfl) rfl (fun _ _ _ h => h) (Or.inl ⟨by rfl, ?_⟩) hHeld (fun hHeld => ?_)
            · (intro w1 hSw; have hSw := hSw.1; (try dsimp only at hSw); go_simp)
            simp only [List.getElem_toArray, List.getElem_cons_succ, List.getElem_cons_zero, Act.put, List.setIfInBounds_toArray, List.set_cons_zero, List.set_cons_succ]
            refine wpAnyS_take (i := 2) (v := .int .i64 (rz : Int)) _ rfl (by kernel_rfl) (by kernel_rfl) (by kernel_rfl) (by kernel_rfl) (by kernel_rfl) rfl (fun _ _ _ h => h) (Or.inl ⟨by rfl, ?_⟩) hHeld (fun hHeld => ?_)
            · (intro w1 hSw; have hSw := hSw.1; (try dsimp only at hSw); go_simp)
            simp only [List.getElem_toArray, List.getElem_cons_succ, List.getElem_cons_zero, Act.put, List.setIfInBounds_toArray, List.set_cons_zero, List.set_cons_succ]
            refine wpAnyS_take (i := 3) (v := .bool (decide (0 < (rz : Int)))) _ rfl (by kernel_rfl) (by kernel_rfl) (by kernel_rfl) (by kernel_rfl) (by kernel_rfl) rfl (fun _ _ _ h => h) (Or.inl ⟨by rfl, ?_⟩) hHeld (fun hHeld => ?_)
            · (intro w1 hSw; have hSw := hSw.1; (try dsimp only at hSw); go_simp)
            simp only [List.getElem_toArray, List.getElem_cons_succ, List.getElem_cons_zero, Act.put, List.setIfInBounds_toArray, List.set_cons_zero, List.set_cons_succ]
            refine wpAnyS_take (i := 4) (v := .int .i64 0) _ rfl (by kernel_rfl) (by kernel_rfl) (by kernel_rfl) (by kernel_rfl) (by kernel_rfl) rfl (fun _ _ _ h => h) (Or.inl ⟨by rfl, ?_⟩) hHeld (fun hHeld => ?_)
            · (intro w1 hSw; have hSw := hSw.1; (try dsimp only at hSw); go_simp)
            simp only [List.getElem_toArray, List.getElem_cons_succ, List.getElem_cons_zero, Act.put, List.setIfInBounds_toArray, List.set_cons_zero, List.set_cons_succ]
            refine wpAnyS_ready (i := 5) (by kernel_rfl) rfl (fun K hK => ?_)
            rw [if_pos (by rfl)]
            refine wp_storeN _ _ _ rfl (w.heap.size + 1) 0 (c9 ⟨(.slice va rD.length vc), rD, rf, rz, ra⟩) rfl rfl _ _ HX1'.out (by simp [c9]) (by kernel_rfl) (by kernel_rfl) (fun W hW => ?_)
            have hq : ∀ i, W.cell? ⟨w2.heap.size, i, none⟩ = W1.cell? ⟨w2.heap.size, i, none⟩ := fun i => World.cell?_of_block (hW.o w2.heap.size (by omega))
            refine hK.out _ _ ⟨?_, fun hno => absurd hno (by decide)⟩ (fun hHeld => ?_)
            · exact ⟨(hq 0).trans d0, (hq 1).trans d1, (hq 2).trans d2, (hq 3).trans d3, (hq 4).trans d4, (hq 5).trans d5, (hq 6).trans d6, (hq 7).trans d7, (hq 8).trans d8⟩
            clear hK K
            refine wpAnyS_take (i := 6) (v := .bool (decide (0 < (rz : Int)))) _ rfl (by kernel_rfl) (by kernel_rfl) (by kernel_rfl) (by kernel_rfl) (by kernel_rfl) rfl (fun _ _ _ h => h) (Or.inl ⟨by rfl, ?_⟩) hHeld (fun hHeld => ?_)
            · (intro w1 hSw; have hSw := hSw.1; (try dsimp only at hSw); go_simp)
            simp only [List.getElem_toArray, List.getElem_cons_succ, List.getElem_cons_zero, Act.put, List.setIfInBounds_toArray, List.set_cons_zero, List.set_cons_succ]
            refine wpAnyS_take (i := 7) (v := .int .i64 0) _ rfl (by kernel_rfl) (by kernel_rfl) (by kernel_rfl) (by kernel_rfl) (by kernel_rfl) rfl (fun _ _ _ h => h) (Or.inl ⟨by rfl, ?_⟩) hHeld (fun hHeld => ?_)
            · (intro w1 hSw; have hSw := hSw.1; (try dsimp only at hSw); go_simp)
            simp only [List.getElem_toArray, List.getElem_cons_succ, List.getElem_cons_zero, Act.put, List.setIfInBounds_toArray, List.set_cons_zero, List.set_cons_succ]
            refine wpAnyS_done (by kernel_rfl) ?_ _
            refine NoPanic.normal ?_
            have hx := box9 hW rfl
            have f := fun i hi => (cell_row hx i hi).1
            have f0 := f 0 (by simp [c9])
            have f1 := f 1 (by simp [c9])
            have f2 := f 2 (by simp [c9])
            have f3 := f 3 (by simp [c9])
            have f4 := f 4 (by simp [c9])
            have f5 := f 5 (by simp [c9])
            have f6 := f 6 (by simp [c9])
            have f7 := f 7 (by simp [c9])
            have f8 := f 8 (by simp [c9])
            simp only [c9, List.getElem_toArray, List.getElem_cons_zero, List.getElem_cons_succ] at f0 f1 f2 f3 f4 f5 f6 f7 f8
            have hdz : decide ((0 : Int) < (rz : Int)) = decide (0 < rz) := by simp
            have HE1 : Hid (G17 R wm L D t w (.returned (.tuple #[.agg (c9 ⟨(.slice va rD.length vc), rD, rf, rz, ra⟩).toArray, .bool (decide ((0 : Int) < (rz : Int))), .int .i64 0])) W) := by
              rw [hdz]
              exact ⟨(HB1'.out.drew).trans (hW.b _ (Nat.le_succ _)), .inr (.inr ⟨HZ.out, HRB.out, ⟨(.slice va rD.length vc), rD, rf, rz, ra⟩, rfl, sreads_box (HS1.out.below (Below.refl _ _).drew) HX1'.out hW, HMr.out⟩)⟩
            clear hW hx f hq hdz d0 d1 d2 d3 d4 d5 d6 d7 d8
            go_wp2_with fail
            refine bodyPost_ret (v := .tuple #[.agg (c9 ⟨(.slice va rD.length vc), rD, rf, rz, ra⟩).toArray, .bool (decide ((0 : Int) < (rz : Int))), .int .i64 0]) (by simp [results, Tryz.results11, go_sem, f0, f1, f2, f3, f4, f5, f6, f7, f8, c9]) rfl ?_
            exact HE1.out
  · have hcb : (c == 0) = false := by simp [hne]
    have hcb' : (c != 0) = true := by simp [hne]
    have HEnd : Hid (∀ W, Below w.heap.size w W → G17 R wm L D t w (.returned (.tuple #[.agg (c9 itZ).toArray, .bool false, .int .i64 c])) W) := fun W hW => ⟨hW, .inl ⟨by rw [← Hc.out]; exact hne, by rw [← Hc.out]⟩⟩
    clear hT hm hok hb2 HZ1 HB1 HD1 Hc
    go_wp2_with (refine stop_store 42 _ _ rfl ?_)
    refine Stop.of ?_
    refine wpList_storeN rfl _ _ _ rfl (w.heap.size + 1) 0 (c9 itZ) rfl rfl _ _ HX2.out (by simp) (by kernel_rfl) (by kernel_rfl) ?_
    intro V hV
    have hx := box9 hV rfl
    have f := fun i hi => (cell_row hx i hi).1
    have f0 := f 0 (by simp [c9])
    have f1 := f 1 (by simp [c9])
    have f2 := f 2 (by simp [c9])
    have f3 := f 3 (by simp [c9])
    have f4 := f 4 (by simp [c9])
    have f5 := f 5 (by simp [c9])
    have f6 := f 6 (by simp [c9])
    have f7 := f 7 (by simp [c9])
    have f8 := f 8 (by simp [c9])
    simp only [c9, itZ, List.getElem_toArray, List.getElem_cons_zero, List.getElem_cons_succ] at f0 f1 f2 f3 f4 f5 f6 f7 f8
    have HE1 : Hid (G17 R wm L D t w (.returned (.tuple #[.agg (c9 itZ).toArray, .bool false, .int .i64 c])) V) := HEnd.out V (HB2.out.trans (hV.b _ (Nat.le_succ _)))
    clear hV hx f
    go_wp2_with fail
    refine bodyPost_ret (v := .tuple #[.agg (c9 itZ).toArray, .bool false, .int .i64 c]) (by simp [results, Tryz.results11, go_sem, f0, f1, f2, f3, f4, f5, f6, f7, f8, c9, itZ]) rfl ?_
    exact HE1.out
end Go.Proofs.YtoenijflijfogaaGreat
