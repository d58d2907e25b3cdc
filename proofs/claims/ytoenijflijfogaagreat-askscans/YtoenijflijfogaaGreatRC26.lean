/- AQ4, joined. -/
import Derived.Test.YtoenijflijfogaaGreatRC25
/- The contract of ask.Get. -/
namespace Go.Proofs.YtoenijflijfogaaGreat
open Go.RowKit

theorem box9 {w W : World} {g : Nat} {cur : Array Value} {T : TypeId} {vs : List Value} (h : StW w W g 0 cur T vs) (hb : cur.size = vs.length) : W.heap[g]? = some (.cells vs.toArray T) := by
  obtain ⟨cur', c1, c2, c3, c4⟩ := h.c
  rw [c1]
  congr 2
  apply Array.ext_getElem?
  intro i
  by_cases hi : i < vs.length
  · have := c4 i hi
    rw [Nat.zero_add] at this
    rw [this]
    simp [hi]
  · rw [Array.getElem?_eq_none (by omega), Array.getElem?_eq_none (by simpa using hi)]
theorem cz9 : (c9 itZ).toArray = (#[.slice none 0 0, .int .i64 0, .int .i64 0, .int .u64 0, .bool false, .int .i64 0, .int .u64 0, .int .i64 0, .int .i64 0] : Array Value) := by rfl
def ag6 (b : Ag) : List Value := [.int .u64 b.c, .bool b.o, .int .i64 (hi b.s), .int .u64 (lo b.s), .int .i64 b.mn, .int .i64 b.mx]
theorem box_agg {w W : World} {g : Nat} {T : TypeId} {v : Value} {D : List ByteArray} {f : Int} {z : Nat} {a b : Ag} (h : StW w W g 3 (c9 ⟨v, D, f, z, a⟩).toArray T (ag6 b)) : W.heap[g]? = some (.cells (c9 ⟨v, D, f, z, b⟩).toArray T) := by
  obtain ⟨cur', k1, k2, k3, k4⟩ := h.c
  rw [k1]
  congr 2
  have hs : cur'.size = 9 := k2
  apply Array.ext_getElem?
  intro i
  match i with
  | 0 => exact k3 0 (.inl (by omega))
  | 1 => exact k3 1 (.inl (by omega))
  | 2 => exact k3 2 (.inl (by omega))
  | 3 => exact k4 0 (by simp [ag6])
  | 4 => exact k4 1 (by simp [ag6])
  | 5 => exact k4 2 (by simp [ag6])
  | 6 => exact k4 3 (by simp [ag6])
  | 7 => exact k4 4 (by simp [ag6])
  | 8 => exact k4 5 (by simp [ag6])
  | i + 9 => rw [Array.getElem?_eq_none (by omega), Array.getElem?_eq_none (by simp [c9])]
/-- What the loop of Get keeps. -/
structure GtI (D : List ByteArray) (t : Int) (xs : List It) (V : World) (k : Nat) (r : It) (wr : World) : Prop where
  c : wr.heap[V.heap.size]? = some (.cells (c9 r).toArray 38)
  s : SReads V r.v r.D
  m : itR r = getF D t ((xs.map itR).take k)
  g : Gd r.a
  b : Below V.heap.size V wr
theorem GtI.below {D : List ByteArray} {t : Int} {xs : List It} {V : World} {k : Nat} {r : It} {wr W : World} (h : GtI D t xs V k r wr) (hb : Below wr.heap.size wr W) : GtI D t xs V k r W :=
  ⟨(hb.block _ (Array.getElem?_eq_some_iff.1 h.c).1).trans h.c, h.s, h.m, h.g, h.b.trans (hb.mono h.b.size)⟩
theorem getF_snoc {D : List ByteArray} {t : Int} {xs : List It} {k : Nat} (hk : k < xs.length) : getF D t ((xs.map itR).take (k + 1)) = getS D t (getF D t ((xs.map itR).take k)) (itR xs[k]) := by
  unfold getF
  rw [List.take_add_one, List.getElem?_eq_getElem (by simpa using hk), List.foldl_append]
  simp
theorem no_text (i : Nat) (s : ByteArray) : (c9 itZ).toArray[i]? ≠ some (.string s) := by
  match i with
  | 0 | 1 | 2 | 3 | 4 | 5 | 6 | 7 | 8 => simp [c9, itZ]
  | i + 9 => rw [Array.getElem?_eq_none (by simp [c9])]; simp
theorem sreads_box {w W : World} {g : Nat} {T : TypeId} {vs : List Value} {v : Value} {D : List ByteArray} (h : SReads w v D) (hx : w.heap[g]? = some (.cells (c9 itZ).toArray T)) (hW : StW w W g 0 (c9 itZ).toArray T vs) : SReads W v D := by
  have hs := (hW.b 0 (Nat.zero_le _)).size
  rcases h with h | ⟨b, off, cap, h1, h2, h3, h4, h5, h6, h7⟩
  · exact .inl h
  · have hb : b ≠ g := fun e => by
      subst e
      have h0 := h6 0 h2
      rw [Go.Joins.cell_of_block hx] at h0
      exact no_text _ _ h0
    refine .inr ⟨b, off, cap, h1, h2, h3, h4, Nat.lt_of_lt_of_le h5 hs, fun j hj => ?_, h7⟩
    rw [← h6 j hj]
    exact World.cell?_of_block (hW.o b hb)
theorem getS_no {D : List ByteArray} {t : Int} {r x : Rw} (h : ¬ (x.D = D ∧ x.f ≤ t ∧ t < x.f + x.z)) : getS D t r x = r := if_neg h
theorem getS_big {D : List ByteArray} {t : Int} {r x : Rw} (h : x.D = D ∧ x.f ≤ t ∧ t < x.f + x.z) (hz : r.z < x.z) : getS D t r x = ⟨x.D, x.f, x.z, mrg r.a x.a⟩ := by unfold getS; rw [if_pos h, if_pos hz]
theorem getS_old {D : List ByteArray} {t : Int} {r x : Rw} (h : x.D = D ∧ x.f ≤ t ∧ t < x.f + x.z) (hz : ¬ r.z < x.z) : getS D t r x = ⟨r.D, r.f, r.z, mrg r.a x.a⟩ := by unfold getS; rw [if_pos h, if_neg hz]
/-- What Get tells. -/
def G17 (R : Rl) (wm : Int) (L : List En) (D : List ByteArray) (t : Int) (w : World) (e : Ending) (w' : World) : Prop :=
  Below w.heap.size w w' ∧ ((chkF R wm L ≠ 0 ∧ e = .returned (.tuple #[.agg (c9 itZ).toArray, .bool false, .int .i64 (chkF R wm L)])) ∨ (chkF R wm L = 0 ∧ rightBK D t 0 = false ∧ e = .returned (.tuple #[.agg (c9 itZ).toArray, .bool false, .int .i64 110])) ∨
    (chkF R wm L = 0 ∧ rightBK D t 0 = true ∧ ∃ r : It, e = .returned (.tuple #[.agg (c9 r).toArray, .bool (decide (0 < r.g)), .int .i64 0]) ∧ SReads w' r.v r.D ∧ itR r = getF D t (rowsE R wm L)))
set_option maxRecDepth 100000 in
set_option maxHeartbeats 2000000 in
theorem get17_any (R : Rl) (wm : Int) (v : Value) (L : List En) (dv : Value) (D : List ByteArray) (t : Int) (w : World) (hL : Lies R w.heap.size w) (hE : EReads w v L) (hl : L.length ≤ 100000) (hk : ∀ x ∈ L, x.1.length ≤ 1000) (hD : SReads w dv D) (ht1 : -9223372036854775808 ≤ t) (ht2 : t ≤ 9223372036854775807) :
    Calls Tryz.prog 10 #[.agg #[.slice R.a R.len R.cap, .int .i64 R.kp], .int .i64 wm, v, dv, .int .i64 t] w (G17 R wm L D t w) := by
  obtain ⟨a, cap, rfl, hm1, hm2⟩ := hE.form
  obtain ⟨da, dc, rfl, hdl⟩ := hD.form
  unfold maxLen at hdl
  obtain ⟨w1, HW1⟩ := hid_ex ((w.alloc (.cells #[.slice R.a R.len R.cap, .int .i64 R.kp] 24)).alloc (.cells #[.slice none 0 0, .int .i64 0, .int .i64 0, .int .u64 0, .bool false, .int .i64 0, .int .u64 0, .int .i64 0, .int .i64 0] 38))
  have hb1 : Below w.heap.size w w1 := by rw [HW1.out]; exact ((Below.refl _ _).alloc (Nat.le_refl _) _).alloc (by simp) _
  have hz1 : w1.heap[w.heap.size + 1]? = some (.cells (c9 itZ).toArray 38) := by
    rw [HW1.out, cz9]
    have := heap_alloc_new (w.alloc (.cells #[.slice R.a R.len R.cap, .int .i64 R.kp] 24)) (.cells #[.slice none 0 0, .int .i64 0, .int .i64 0, .int .u64 0, .bool false, .int .i64 0, .int .u64 0, .int .i64 0, .int .i64 0] 38)
    simpa using this
  have HZ1 : Hid (w1.heap[w.heap.size + 1]? = some (.cells (c9 itZ).toArray 38)) := hz1
  have HB1 : Hid (Below w.heap.size w w1) := hb1
  have HF : Hid (Calls Tryz.prog 22 #[.agg #[.slice R.a R.len R.cap, .int .i64 R.kp], .int .i64 wm, .slice a L.length cap] w1 (F17 R wm L w1)) := folded17_any R wm _ L _ (hL.at hb1) (hE.below hb1) hl hk
  have HD1 : Hid (SReads w1 (.slice da D.length dc) D) := hD.below hb1
  clear hL hE hl hk hD hb1 hz1
  obtain ⟨dn, Hdn⟩ := hid_ex D.length
  rw [← Hdn.out] at HD1 hdl ⊢
  go_enter Tryz.func10, Tryz.ntmps10
  go_wp2_with fail
  rw [← HW1.out]
  clear HW1
  refine HF.out.mono ?_
  clear HF
  rintro e w2 ⟨hb2, ⟨hne, rfl⟩ | ⟨hz, g, xs, rfl, hT, hm, hok⟩⟩
  · have hb0 : (chkF R wm L == 0) = false := by simp [hne]
    have HX2 : Hid (w2.heap[w.heap.size + 1]? = some (.cells (c9 itZ).toArray 38)) := (hb2.block _ (Array.getElem?_eq_some_iff.1 HZ1.out).1).trans HZ1.out
    have HEnd : Hid (∀ W, Below w.heap.size w W → G17 R wm L D t w (.returned (.tuple #[.agg (c9 itZ).toArray, .bool false, .int .i64 (chkF R wm L)])) W) := fun W hW => ⟨hW, .inl ⟨hne, rfl⟩⟩
    have HB2 : Hid (Below w.heap.size w w2) := HB1.out.trans (hb2.mono HB1.out.size)
    clear hne hb2 HZ1 HB1
    generalize chkF R wm L = rr at *
    go_wp2_with (refine stop_store 38 _ _ rfl ?_)
    refine Stop.of ?_
    refine wpList_storeN rfl _ _ _ rfl (w.heap.size + 1) 0 (c9 itZ) rfl rfl _ _ HX2.out (by simp) (by kernel_rfl) (by kernel_rfl) ?_
    intro V hV
    have hx := box9 hV rfl
    have f := fun i hi => (cell_row hx i hi).1
    have f0 := f 0 (by simp [c9])
    have f1 := f 1 (by simp [c9])
    have f2 := f 2 (by simp [c9])
    have f3 := f 3 (by simp [c9])
    have f4 := f 4 (by simp [c9])
    have f5 := f 5 (by simp [c9])
    have f6 := f 6 (by simp [c9])
    have f7 := f 7 (by simp [c9])
    have f8 := f 8 (by simp [c9])
    simp only [c9, itZ, List.getElem_toArray, List.getElem_cons_zero, List.getElem_cons_succ] at f0 f1 f2 f3 f4 f5 f6 f7 f8
    have HE1 : Hid (G17 R wm L D t w _ V) := HEnd.out V (HB2.out.trans (hV.b _ (Nat.le_succ _)))
    clear hV hx f
    go_wp2_with fail
    refine bodyPost_ret (v := .tuple #[.agg (c9 itZ).toArray, .bool false, .int .i64 rr]) (by simp [results, Tryz.results10, go_sem, f0, f1, f2, f3, f4, f5, f6, f7, f8, c9, itZ]) rfl ?_
    exact HE1.out
  · have HX2 : Hid (w2.heap[w.heap.size + 1]? = some (.cells (c9 itZ).toArray 38)) := (hb2.block _ (Array.getElem?_eq_some_iff.1 HZ1.out).1).trans HZ1.out
    have HB2 : Hid (Below w.heap.size w w2) := HB1.out.trans (hb2.mono HB1.out.size)
    have HD2 : Hid (SReads w2 (.slice da dn dc) D) := HD1.out.below hb2
    have HRC : Hid (Calls Tryz.prog 23 #[.agg #[.slice da dn dc, .int .i64 t, .int .i64 0]] w2 fun e w' => e = .returned (.bool (rightBK D t 0)) ∧ Below w2.heap.size w2 w') := right_anyK ⟨.slice da dn dc, D, t, 0⟩ w2 ⟨HD2.out, ht1, ht2, by show (-9223372036854775808 : Int) ≤ 0; omega, by show (0 : Int) ≤ 9223372036854775807; omega⟩
    have HZ : Hid (chkF R wm L = 0) := hz
    have HOK : Hid (∀ x ∈ xs, RwOk x) := hok
    have HM : Hid (xs.map itR = rowsE R wm L) := hm
    obtain ⟨n, Hn⟩ := hid_ex xs.length
    rw [← Hn.out] at hT ⊢
    have HT2 : Hid (TReads w2 (.slice (some ⟨g, 0, none⟩) n n) xs) := hT
    have hnl : n ≤ maxLen := by
      obtain ⟨_, _, q1, q2, q3⟩ := hT.form
      simp at q1
      omega
    unfold maxLen at hnl
    clear hz hok hm hT hb2 HZ1 HB1 HD1
    go_wp2_with fail
    refine HRC.out.mono ?_
    clear HRC
    rintro e w3 ⟨rfl, hb3⟩
    have HX3 : Hid (w3.heap[w.heap.size + 1]? = some (.cells (c9 itZ).toArray 38)) := (hb3.block _ (Array.getElem?_eq_some_iff.1 HX2.out).1).trans HX2.out
    have HB3 : Hid (Below w.heap.size w w3) := HB2.out.trans (hb3.mono HB2.out.size)
    have HD3 : Hid (SReads w3 (.slice da dn dc) D) := HD2.out.below hb3
    have HT3 : Hid (TReads w3 (.slice (some ⟨g, 0, none⟩) n n) xs) := HT2.out.below hb3
    clear hb3 HX2 HB2 HD2 HT2
    cases hrb : rightBK D t 0 with
    | false =>
      have HEnd : Hid (∀ W, Below w.heap.size w W → G17 R wm L D t w (.returned (.tuple #[.agg (c9 itZ).toArray, .bool false, .int .i64 110])) W) := fun W hW => ⟨hW, .inr (.inl ⟨HZ.out, hrb, rfl⟩)⟩
      clear hrb
      go_wp2_with (refine stop_store 38 _ _ rfl ?_)
      refine Stop.of ?_
      refine wpList_storeN rfl _ _ _ rfl (w.heap.size + 1) 0 (c9 itZ) rfl rfl _ _ HX3.out (by simp) (by kernel_rfl) (by kernel_rfl) ?_
      intro V hV
      have hx := box9 hV rfl
      have f := fun i hi => (cell_row hx i hi).1
      have f0 := f 0 (by simp [c9])
      have f1 := f 1 (by simp [c9])
      have f2 := f 2 (by simp [c9])
      have f3 := f 3 (by simp [c9])
      have f4 := f 4 (by simp [c9])
      have f5 := f 5 (by simp [c9])
      have f6 := f 6 (by simp [c9])
      have f7 := f 7 (by simp [c9])
      have f8 := f 8 (by simp [c9])
      simp only [c9, itZ, List.getElem_toArray, List.getElem_cons_zero, List.getElem_cons_succ] at f0 f1 f2 f3 f4 f5 f6 f7 f8
      have HE1 : Hid (G17 R wm L D t w _ V) := HEnd.out V (HB3.out.trans (hV.b _ (Nat.le_succ _)))
      clear hV hx f
      go_wp2_with fail
      refine bodyPost_ret (v := .tuple #[.agg (c9 itZ).toArray, .bool false, .int .i64 110]) (by simp [results, Tryz.results10, go_sem, f0, f1, f2, f3, f4, f5, f6, f7, f8, c9, itZ]) rfl ?_
      exact HE1.out
    | true =>
      have HRB : Hid (rightBK D t 0 = true) := hrb
      clear hrb
      obtain ⟨w4, HW4⟩ := hid_ex (w3.alloc (.cells #[.slice none 0 0, .int .i64 0, .int .i64 0, .int .u64 0, .bool false, .int .i64 0, .int .u64 0, .int .i64 0, .int .i64 0] 38))
      have HI0 : Hid (GtI D t xs w3 0 itZ w4) := by
        rw [HW4.out]
        exact ⟨by rw [cz9]; exact heap_alloc_new _ _, .inl ⟨rfl, none, 0, rfl, fun _ => rfl⟩, rfl, Gd.zero, new_below _ _⟩
      have HX4 : Hid (w4.heap[w.heap.size + 1]? = some (.cells (c9 itZ).toArray 38)) := (HI0.out.b.block _ (Array.getElem?_eq_some_iff.1 HX3.out).1).trans HX3.out
      go_wp2_with fail
      rw [← HW4.out]
      clear HW4
      go_loopw [38] (fun i wr => ∃ (k : Nat) (r : It), k ≤ n ∧ i = .int .i64 (k : Int) ∧ Hid (GtI D t xs w3 k r wr)) (fun i _ => n - (intOf i).toNat)
      case atStart => exact ⟨0, itZ, by omega, rfl, HI0⟩
      case round =>
        clear HI0 HX4
        obtain ⟨k, r, hk, rfl, HC⟩ := hrel
        by_cases hlt : k < n
        · have hkx : k < xs.length := by rw [← Hn.out]; exact hlt
          obtain ⟨b, off, hbl, hcell, hsr⟩ : ∃ b off, b < w3.heap.size ∧ (g = b ∧ 0 = off ∧ ∀ i (hi : i < 9), w3.cell? ⟨b, off + k * 9 + i, none⟩ = some ((c9 xs[k])[i]'hi)) ∧ SReads w3 xs[k].v xs[k].D := by
            obtain ⟨_, _, hxv, _, _, hx3⟩ := HT3.out
            simp at hxv
            obtain ⟨rfl, _, rfl⟩ := hxv
            rcases hx3 with h0 | ⟨b, off, hab, hbl, hcell⟩
            · rw [h0] at hkx; simp at hkx
            · simp at hab
              exact ⟨b, off, hbl, ⟨hab.1, hab.2, (hcell k hkx).1⟩, (hcell k hkx).2⟩
          obtain ⟨rfl, rfl, hc9⟩ := hcell
          have hok := HOK.out xs[k] (List.getElem_mem hkx)
          have hrs := getF_snoc (D := D) (t := t) hkx
          rw [← HC.out.m] at hrs
          obtain ⟨X, HX⟩ := hid_ex xs[k]
          rw [← HX.out] at hc9 hsr hok hrs
          obtain ⟨xv, xD, xf, xz, xg⟩ := X
          obtain ⟨rv, rD, rf, rz, ra⟩ := r
          obtain ⟨va, vc, hv, hxl⟩ := hsr.form
          simp only at hv
          subst hv
          have hy : ∀ i (hi : i < 9), wr.cell? ⟨g, k * 9 + i, none⟩ = some ((c9 ⟨.slice va xD.length vc, xD, xf, xz, xg⟩)[i]'hi) := fun i hi => by
            have := hc9 i hi
            rw [Nat.zero_add] at this
            exact (HC.out.b.cell (p := ⟨g, k * 9 + i, none⟩) hbl).trans this
          have y0 := hy 0 (by decide)
          have y1 := hy 1 (by decide)
          have y2 := hy 2 (by decide)
          have y3 := hy 3 (by decide)
          have y4 := hy 4 (by decide)
          have y5 := hy 5 (by decide)
          have y6 := hy 6 (by decide)
          have y7 := hy 7 (by decide)
          have y8 := hy 8 (by decide)
          simp only [c9, List.getElem_cons_zero, List.getElem_cons_succ, Nat.add_zero] at y0 y1 y2 y3 y4 y5 y6 y7 y8
          obtain ⟨hf0, hf1⟩ := hok.f
          obtain ⟨hz0, hz1⟩ := hok.z
          have HGA : Hid (Gd xg) := hok.a
          simp only at hf0 hf1 hz0 hz1
          have hz1' : (xz : Int) ≤ 1099511627776 := by omega
          have HSX : Hid (SReads w3 (.slice va xD.length vc) xD) := hsr
          have HNO : Hid (¬ (xD = D ∧ xf ≤ t ∧ t < xf + xz) → ∀ W, Below wr.heap.size wr W → GtI D t xs w3 (k + 1) ⟨rv, rD, rf, rz, ra⟩ W) := fun hn W hW => ⟨(HC.out.below hW).c, HC.out.s, by rw [hrs]; exact (getS_no hn).symm, HC.out.g, (HC.out.below hW).b⟩
          have HYES : Hid ((xD = D ∧ xf ≤ t ∧ t < xf + xz) → (rz < xz → itR ⟨.slice va xD.length vc, xD, xf, xz, mrg ra xg⟩ = getF D t (List.take (k + 1) (List.map itR xs))) ∧ (¬ rz < xz → itR ⟨rv, rD, rf, rz, mrg ra xg⟩ = getF D t (List.take (k + 1) (List.map itR xs)))) := fun hn => ⟨fun hz => by rw [hrs]; exact (getS_big (r := itR ⟨rv, rD, rf, rz, ra⟩) (x := itR ⟨.slice va xD.length vc, xD, xf, xz, xg⟩) hn hz).symm, fun hz => by rw [hrs]; exact (getS_old (r := itR ⟨rv, rD, rf, rz, ra⟩) (x := itR ⟨.slice va xD.length vc, xD, xf, xz, xg⟩) hn hz).symm⟩
          obtain ⟨w5, HW5⟩ := hid_ex (wr.alloc (.cells #[.slice va xD.length vc, .int .i64 xf, .int .i64 (xz : Int), .int .u64 xg.c, .bool xg.o, .int .i64 (hi xg.s), .int .u64 (lo xg.s), .int .i64 xg.mn, .int .i64 xg.mx] 38))
          have hb5 : Below wr.heap.size wr w5 := by rw [HW5.out]; exact new_below _ _
          have HB5 : Hid (Below wr.heap.size wr w5) := hb5
          have HX5 : Hid (w5.heap[wr.heap.size]? = some (.cells #[.slice va xD.length vc, .int .i64 xf, .int .i64 (xz : Int), .int .u64 xg.c, .bool xg.o, .int .i64 (hi xg.s), .int .u64 (lo xg.s), .int .i64 xg.mn, .int .i64 xg.mx] 38)) := by rw [HW5.out]; exact heap_alloc_new _ _
          have HC5 : Hid (GtI D t xs w3 k ⟨rv, rD, rf, rz, ra⟩ w5) := HC.out.below hb5
          have HEQ : Hid (Calls Tryz.prog 24 #[.slice va xD.length vc, .slice da dn dc] w5 fun e w' => e = .returned (.bool (decide (xD = D))) ∧ Below w5.heap.size w5 w') := equalS_any _ _ _ _ _ (HSX.out.below HC5.out.b) (HD3.out.below HC5.out.b)
          have b0 := (cell_row HX5.out 0 (by simp)).1
          simp only [List.getElem_toArray, List.getElem_cons_zero] at b0
          obtain ⟨xl, Hxl⟩ := hid_ex xD.length
          clear hb5 hsr hok hrs hy hc9 hkx HX HC HT3
          by_cases e1 : xD = D
          · by_cases e2 : t < xf
            · replace HNO : Hid (∀ W, Below wr.heap.size wr W → GtI D t xs w3 (k + 1) ⟨rv, rD, rf, rz, ra⟩ W) := HNO.out (by omega)
              rw [decide_eq_true e1] at HEQ
              clear e1 HYES
              go_wp2_with fail
              rw [← HW5.out]
              clear HW5
              refine HEQ.out.mono ?_
              rintro e w6 ⟨rfl, hb6⟩
              have HN : Hid (GtI D t xs w3 (k + 1) ⟨rv, rD, rf, rz, ra⟩ w6) := HNO.out w6 (HB5.out.trans (hb6.mono HB5.out.size))
              have HX6 : Hid (w6.heap[wr.heap.size]? = some (.cells #[.slice va xD.length vc, .int .i64 xf, .int .i64 (xz : Int), .int .u64 xg.c, .bool xg.o, .int .i64 (hi xg.s), .int .u64 (lo xg.s), .int .i64 xg.mn, .int .i64 xg.mx] 38)) := (hb6.block _ (Array.getElem?_eq_some_iff.1 HX5.out).1).trans HX5.out
              have d1 := (cell_row HX6.out 1 (by simp)).1
              have d2 := (cell_row HX6.out 2 (by simp)).1
              simp only [List.getElem_toArray, List.getElem_cons_zero, List.getElem_cons_succ] at d1 d2
              clear hb6
              go_wp2_with fail
              go_roundw
              case rel => exact ⟨k + 1, _, by omega, by go_num, HN⟩
              case measure => simp [intOf]; omega
            · by_cases e3 : xf + xz ≤ t
              · replace HNO : Hid (∀ W, Below wr.heap.size wr W → GtI D t xs w3 (k + 1) ⟨rv, rD, rf, rz, ra⟩ W) := HNO.out (by omega)
                rw [decide_eq_true e1] at HEQ
                clear e1 HYES
                go_wp2_with fail
                rw [← HW5.out]
                clear HW5
                refine HEQ.out.mono ?_
                rintro e w6 ⟨rfl, hb6⟩
                have HN : Hid (GtI D t xs w3 (k + 1) ⟨rv, rD, rf, rz, ra⟩ w6) := HNO.out w6 (HB5.out.trans (hb6.mono HB5.out.size))
                have HX6 : Hid (w6.heap[wr.heap.size]? = some (.cells #[.slice va xD.length vc, .int .i64 xf, .int .i64 (xz : Int), .int .u64 xg.c, .bool xg.o, .int .i64 (hi xg.s), .int .u64 (lo xg.s), .int .i64 xg.mn, .int .i64 xg.mx] 38)) := (hb6.block _ (Array.getElem?_eq_some_iff.1 HX5.out).1).trans HX5.out
                have d1 := (cell_row HX6.out 1 (by simp)).1
                have d2 := (cell_row HX6.out 2 (by simp)).1
                simp only [List.getElem_toArray, List.getElem_cons_zero, List.getElem_cons_succ] at d1 d2
                clear hb6
                go_wp2_with fail
                go_roundw
                case rel => exact ⟨k + 1, _, by omega, by go_num, HN⟩
                case measure => simp [intOf]; omega
              · have HY := HYES.out ⟨e1, by omega, by omega⟩
                have HYH : Hid _ := HY
                rw [decide_eq_true e1] at HEQ
                clear e1 HYES HY HNO
                go_wp2_with fail
                rw [← HW5.out]
                clear HW5
                refine HEQ.out.mono ?_
                clear HEQ
                rintro e w6 ⟨rfl, hb6⟩
                have HX6 : Hid (w6.heap[wr.heap.size]? = some (.cells #[.slice va xD.length vc, .int .i64 xf, .int .i64 (xz : Int), .int .u64 xg.c, .bool xg.o, .int .i64 (hi xg.s), .int .u64 (lo xg.s), .int .i64 xg.mn, .int .i64 xg.mx] 38)) := (hb6.block _ (Array.getElem?_eq_some_iff.1 HX5.out).1).trans HX5.out
                have HC6 : Hid (GtI D t xs w3 k ⟨rv, rD, rf, rz, ra⟩ w6) := HC5.out.below hb6
                have d0 := (cell_row HX6.out 0 (by simp)).1
                have d1 := (cell_row HX6.out 1 (by simp)).1
                have d2 := (cell_row HX6.out 2 (by simp)).1
                have d3 := (cell_row HX6.out 3 (by simp)).1
                have d4 := (cell_row HX6.out 4 (by simp)).1
                have d5 := (cell_row HX6.out 5 (by simp)).1
                have d6 := (cell_row HX6.out 6 (by simp)).1
                have d7 := (cell_row HX6.out 7 (by simp)).1
                have d8 := (cell_row HX6.out 8 (by simp)).1
                simp only [List.getElem_toArray, List.getElem_cons_zero, List.getElem_cons_succ] at d0 d1 d2 d3 d4 d5 d6 d7 d8
                have q0 := (cell_row HC6.out.c 0 (by simp [c9])).1
                have q1 := (cell_row HC6.out.c 1 (by simp [c9])).1
                have q2 := (cell_row HC6.out.c 2 (by simp [c9])).1
                have q3 := (cell_row HC6.out.c 3 (by simp [c9])).1
                have q4 := (cell_row HC6.out.c 4 (by simp [c9])).1
                have q5 := (cell_row HC6.out.c 5 (by simp [c9])).1
                have q6 := (cell_row HC6.out.c 6 (by simp [c9])).1
                have q7 := (cell_row HC6.out.c 7 (by simp [c9])).1
                have q8 := (cell_row HC6.out.c 8 (by simp [c9])).1
                simp only [c9, List.getElem_toArray, List.getElem_cons_zero, List.getElem_cons_succ] at q0 q1 q2 q3 q4 q5 q6 q7 q8
                have hcb := HC6.out.g.1
                have hcx := HGA.out.1
                have HGM : Hid (Gd (mrg ra xg)) := HC6.out.g.mrg HGA.out
                clear hb6 HX5 HC5 HB5 b0
                go_wp2_with fail
                refine (merge_any ra xg hcb.1 hcb.2 hcx.1 hcx.2 _).mono ?_
                clear hcb hcx
                rintro e w7 ⟨rfl, hb7⟩
                obtain ⟨w8, HW8⟩ := hid_ex (w7.alloc (.cells #[.int .u64 (mrg ra xg).c, .bool (mrg ra xg).o, .int .i64 (hi (mrg ra xg).s), .int .u64 (lo (mrg ra xg).s), .int .i64 (mrg ra xg).mn, .int .i64 (mrg ra xg).mx] 36))
                have hb8 : Below w7.heap.size w7 w8 := by rw [HW8.out]; exact new_below _ _
                have hb68 : Below w6.heap.size w6 w8 := hb7.trans (hb8.mono hb7.size)
                have HX8 : Hid (w8.heap[wr.heap.size]? = some (.cells #[.slice va xD.length vc, .int .i64 xf, .int .i64 (xz : Int), .int .u64 xg.c, .bool xg.o, .int .i64 (hi xg.s), .int .u64 (lo xg.s), .int .i64 xg.mn, .int .i64 xg.mx] 38)) := (hb68.block _ (Array.getElem?_eq_some_iff.1 HX6.out).1).trans HX6.out
                have HC8 : Hid (GtI D t xs w3 k ⟨rv, rD, rf, rz, ra⟩ w8) := HC6.out.below hb68
                have HK8 : Hid (w8.heap[w7.heap.size]? = some (.cells #[.int .u64 (mrg ra xg).c, .bool (mrg ra xg).o, .int .i64 (hi (mrg ra xg).s), .int .u64 (lo (mrg ra xg).s), .int .i64 (mrg ra xg).mn, .int .i64 (mrg ra xg).mx] 36)) := by rw [HW8.out]; exact heap_alloc_new _ _
                have hk7 : w3.heap.size < w7.heap.size := by
                  have h1 := (Array.getElem?_eq_some_iff.1 HC6.out.c).1
                  have h2 := hb7.size
                  omega
                have HX7 : Hid (w7.heap[wr.heap.size]? = some (.cells #[.slice va xD.length vc, .int .i64 xf, .int .i64 (xz : Int), .int .u64 xg.c, .bool xg.o, .int .i64 (hi xg.s), .int .u64 (lo xg.s), .int .i64 xg.mn, .int .i64 xg.mx] 38)) := (hb7.block _ (Array.getElem?_eq_some_iff.1 HX6.out).1).trans HX6.out
                have HC7 : Hid (GtI D t xs w3 k ⟨rv, rD, rf, rz, ra⟩ w7) := HC6.out.below hb7
                clear d0 d1 d2 d3 d4 d5 d6 d7 d8 q0 q1 q2 q3 q4 q5 q6 q7 q8 hb7 hb8 hb68 HX6 HC6
                have d0 := (cell_row HX8.out 0 (by simp)).1
                have d1 := (cell_row HX8.out 1 (by simp)).1
                have d2 := (cell_row HX8.out 2 (by simp)).1
                have d3 := (cell_row HX8.out 3 (by simp)).1
                have d4 := (cell_row HX8.out 4 (by simp)).1
                have d5 := (cell_row HX8.out 5 (by simp)).1
                have d6 := (cell_row HX8.out 6 (by simp)).1
                have d7 := (cell_row HX8.out 7 (by simp)).1
                have d8 := (cell_row HX8.out 8 (by simp)).1
                simp only [List.getElem_toArray, List.getElem_cons_zero, List.getElem_cons_succ] at d0 d1 d2 d3 d4 d5 d6 d7 d8
                have q2 := (cell_row HC8.out.c 2 (by simp [c9])).1
                simp only [c9, List.getElem_toArray, List.getElem_cons_zero, List.getElem_cons_succ] at q2
                rw [HW8.out] at d0 d1 d2 d3 d4 d5 d6 d7 d8 q2
                by_cases e4 : rz < xz
                · have e4' : (rz : Int) < (xz : Int) := by omega
                  have HYY : Hid _ := HYH.out.1 e4
                  clear HYH e4
                  go_wp2_with (refine stop_store 38 _ _ rfl ?_)
                  rw [← HW8.out]
                  refine Stop.of ?_
                  refine wpList_storeN rfl _ _ _ rfl w3.heap.size 0 (c9 ⟨.slice va xD.length vc, xD, xf, xz, xg⟩) rfl rfl _ _ HC8.out.c (by simp [c9]) (by kernel_rfl) (by kernel_rfl) ?_
                  intro W1 hW1
                  have HF1 : Hid (W1.heap[w3.heap.size]? = some (.cells (c9 ⟨.slice va xD.length vc, xD, xf, xz, xg⟩).toArray 38)) := box9 hW1 rfl
                  have HK1 : Hid (W1.heap[w7.heap.size]? = some (.cells #[.int .u64 (mrg ra xg).c, .bool (mrg ra xg).o, .int .i64 (hi (mrg ra xg).s), .int .u64 (lo (mrg ra xg).s), .int .i64 (mrg ra xg).mn, .int .i64 (mrg ra xg).mx] 36)) := (hW1.o _ (by omega)).trans HK8.out
                  have HBW : Hid (Below w3.heap.size w3 W1) := HC8.out.b.trans (hW1.b _ (Nat.le_refl _))
                  have m0 := (cell_row HK1.out 0 (by simp)).1
                  have m1 := (cell_row HK1.out 1 (by simp)).1
                  have m2 := (cell_row HK1.out 2 (by simp)).1
                  have m3 := (cell_row HK1.out 3 (by simp)).1
                  have m4 := (cell_row HK1.out 4 (by simp)).1
                  have m5 := (cell_row HK1.out 5 (by simp)).1
                  simp only [List.getElem_toArray, List.getElem_cons_zero, List.getElem_cons_succ] at m0 m1 m2 m3 m4 m5
                  clear hW1 d0 d1 d2 d3 d4 d5 d6 d7 d8 q2
                  go_wp2_with (refine stop_store 36 (.tmp 74) _ rfl ?_)
                  refine Stop.of ?_
                  refine wpList_storeN rfl _ _ _ rfl w3.heap.size 3 (ag6 (mrg ra xg)) rfl rfl _ _ HF1.out (by simp [c9, ag6]) (by kernel_rfl) (by kernel_rfl) ?_
                  intro W2 hW2
                  have HN : Hid (GtI D t xs w3 (k + 1) ⟨.slice va xD.length vc, xD, xf, xz, mrg ra xg⟩ W2) := ⟨box_agg hW2, HSX.out, HYY.out, HGM.out, HBW.out.trans (hW2.b _ (Nat.le_refl _))⟩
                  clear hW2
                  go_wp2_with fail
                  go_roundw
                  case rel => exact ⟨k + 1, _, by omega, by go_num, HN⟩
                  case measure => simp [intOf]; omega
                · have e4' : ¬ (rz : Int) < (xz : Int) := by omega
                  have HYY : Hid _ := HYH.out.2 e4
                  have HSV : Hid (SReads w3 rv rD) := HC8.out.s
                  clear HYH e4
                  have m0 := (cell_row HK8.out 0 (by simp)).1
                  have m1 := (cell_row HK8.out 1 (by simp)).1
                  have m2 := (cell_row HK8.out 2 (by simp)).1
                  have m3 := (cell_row HK8.out 3 (by simp)).1
                  have m4 := (cell_row HK8.out 4 (by simp)).1
                  have m5 := (cell_row HK8.out 5 (by simp)).1
                  simp only [List.getElem_toArray, List.getElem_cons_zero, List.getElem_cons_succ] at m0 m1 m2 m3 m4 m5
                  rw [HW8.out] at m0 m1 m2 m3 m4 m5
                  go_wp2_with (refine stop_store 36 (.tmp 74) _ rfl ?_)
                  rw [← HW8.out]
                  refine Stop.of ?_
                  refine wpList_storeN rfl _ _ _ rfl w3.heap.size 3 (ag6 (mrg ra xg)) rfl rfl _ _ HC8.out.c (by simp [c9, ag6]) (by kernel_rfl) (by kernel_rfl) ?_
                  intro W2 hW2
                  have HN : Hid (GtI D t xs w3 (k + 1) ⟨rv, rD, rf, rz, mrg ra xg⟩ W2) := ⟨box_agg hW2, HSV.out, HYY.out, HGM.out, HC8.out.b.trans (hW2.b _ (Nat.le_refl _))⟩
                  clear hW2
                  go_wp2_with fail
                  go_roundw
                  case rel => exact ⟨k + 1, _, by omega, by go_num, HN⟩
                  case measure => simp [intOf]; omega
          · replace HNO : Hid (∀ W, Below wr.heap.size wr W → GtI D t xs w3 (k + 1) ⟨rv, rD, rf, rz, ra⟩ W) := HNO.out (fun h => e1 h.1)
            rw [decide_eq_false e1] at HEQ
            clear e1 HYES
            go_wp2_with fail
            rw [← HW5.out]
            clear HW5
            refine HEQ.out.mono ?_
            rintro e w6 ⟨rfl, hb6⟩
            have HN : Hid (GtI D t xs w3 (k + 1) ⟨rv, rD, rf, rz, ra⟩ w6) := HNO.out w6 (HB5.out.trans (hb6.mono HB5.out.size))
            clear hb6
            go_wp2_with fail
            go_roundw
            case rel => exact ⟨k + 1, _, by omega, by go_num, HN⟩
            case measure => simp [intOf]; omega
        · obtain rfl : k = n := by omega
          obtain ⟨rv, rD, rf, rz, ra⟩ := r
          obtain ⟨va, vc, hrv, _⟩ := HC.out.s.form
          simp only at hrv
          subst hrv
          have HXr : Hid (wr.heap[w.heap.size + 1]? = some (.cells (c9 itZ).toArray 38)) := (HC.out.b.block _ (Array.getElem?_eq_some_iff.1 HX3.out).1).trans HX3.out
          have HBr : Hid (Below w.heap.size w wr) := HB3.out.trans (HC.out.b.mono HB3.out.size)
          have HSr : Hid (SReads wr (.slice va rD.length vc) rD) := HC.out.s.below HC.out.b
          have HMr : Hid (itR ⟨(.slice va rD.length vc), rD, rf, rz, ra⟩ = getF D t (rowsE R wm L)) := by
            have h1 := HC.out.m
            rw [List.take_of_length_le (by rw [List.length_map, Hn.out]; exact Nat.le_refl _), HM.out] at h1
            exact h1
          have d := fun i hi => (cell_row HC.out.c i hi).1
          have d0 := d 0 (by simp [c9])
          have d1 := d 1 (by simp [c9])
          have d2 := d 2 (by simp [c9])
          have d3 := d 3 (by simp [c9])
          have d4 := d 4 (by simp [c9])
          have d5 := d 5 (by simp [c9])
          have d6 := d 6 (by simp [c9])
          have d7 := d 7 (by simp [c9])
          have d8 := d 8 (by simp [c9])
          simp only [c9, List.getElem_toArray, List.getElem_cons_zero, List.getElem_cons_succ] at d0 d1 d2 d3 d4 d5 d6 d7 d8
          have hlo : w.heap.size + 1 < w3.heap.size := (Array.getElem?_eq_some_iff.1 HX3.out).1
          clear d HC HM Hn HT3 HD3 HOK HX3 HB3
          go_wp2_with fail
          refine wp_region_noPanic ?_
          refine wp_region_S 4 (fun w' => w'.cell? ⟨w3.heap.size, 0, none⟩ = some (.slice va rD.length vc) ∧ w'.cell? ⟨w3.heap.size, 1, none⟩ = some (.int .i64 rf) ∧ w'.cell? ⟨w3.heap.size, 2, none⟩ = some (.int .i64 (rz : Int)) ∧ w'.cell? ⟨w3.heap.size, 3, none⟩ = some (.int .u64 ra.c) ∧ w'.cell? ⟨w3.heap.size, 4, none⟩ = some (.bool ra.o) ∧ w'.cell? ⟨w3.heap.size, 5, none⟩ = some (.int .i64 (hi ra.s)) ∧ w'.cell? ⟨w3.heap.size, 6, none⟩ = some (.int .u64 (lo ra.s)) ∧ w'.cell? ⟨w3.heap.size, 7, none⟩ = some (.int .i64 ra.mn) ∧ w'.cell? ⟨w3.heap.size, 8, none⟩ = some (.int .i64 ra.mx)) (fun _ => True) (by kernel_rfl) ?_ ?_ (fun hHeld => ?_)
          · exact ⟨d0, d1, d2, d3, d4, d5, d6, d7, d8⟩
          · trivial
          refine wpAnyS_take (i := 0) (v := .agg #[(.slice va rD.length vc), .int .i64 rf, .int .i64 (rz : Int), .int .u64 ra.c, .bool ra.o, .int .i64 (hi ra.s), .int .u64 (lo ra.s), .int .i64 ra.mn, .int .i64 ra.mx]) _ rfl (by kernel_rfl) (by kernel_rfl) (by kernel_rfl) (by kernel_rfl) (by kernel_rfl) rfl (fun _ _ _ h => h) (Or.inl ⟨by rfl, ?_⟩) hHeld (fun hHeld => ?_)
          · (intro w1 hSw; have hSw := hSw.1; (try dsimp only at hSw); go_simp)
          simp only [List.getElem_toArray, List.getElem_cons_zero, Act.put, List.setIfInBounds_toArray, List.set_cons_zero, List.set_cons_succ]
          refine wpAnyS_take (i := 1) (v := .pointer (some ⟨w3.heap.size, 2, none⟩)) _ rfl (by kernel_rfl) (by kernel_rfl) (by kernel_rfl) (by kernel_rfl) (by kernel_rfl) rfl (fun _ _ _ h => h) (Or.inl ⟨by rfl, ?_⟩) hHeld (fun hHeld => ?_)
          · (intro w1 hSw; have hSw := hSw.1; (try dsimp only at hSw); go_simp)
          simp only [List.getElem_toArray, List.getElem_cons_succ, List.getElem_cons_zero, Act.put, List.setIfInBounds_toArray, List.set_cons_zero, List.set_cons_succ]
          refine wpAnyS_take (i := 2) (v := .int .i64 (rz : Int)) _ rfl (by kernel_rfl) (by kernel_rfl) (by kernel_rfl) (by kernel_rfl) (by kernel_rfl) rfl (fun _ _ _ h => h) (Or.inl ⟨by rfl, ?_⟩) hHeld (fun hHeld => ?_)
          · (intro w1 hSw; have hSw := hSw.1; (try dsimp only at hSw); go_simp)
          simp only [List.getElem_toArray, List.getElem_cons_succ, List.getElem_cons_zero, Act.put, List.setIfInBounds_toArray, List.set_cons_zero, List.set_cons_succ]
          refine wpAnyS_take (i := 3) (v := .bool (decide (0 < (rz : Int)))) _ rfl (by kernel_rfl) (by kernel_rfl) (by kernel_rfl) (by kernel_rfl) (by kernel_rfl) rfl (fun _ _ _ h => h) (Or.inl ⟨by rfl, ?_⟩) hHeld (fun hHeld => ?_)
          · (intro w1 hSw; have hSw := hSw.1; (try dsimp only at hSw); go_simp)
          simp only [List.getElem_toArray, List.getElem_cons_succ, List.getElem_cons_zero, Act.put, List.setIfInBounds_toArray, List.set_cons_zero, List.set_cons_succ]
          refine wpAnyS_ready (i := 4) (by kernel_rfl) rfl (fun K hK => ?_)
          rw [if_pos (by rfl)]
          refine wp_storeN _ _ _ rfl (w.heap.size + 1) 0 (c9 ⟨(.slice va rD.length vc), rD, rf, rz, ra⟩) rfl rfl _ _ HXr.out (by simp [c9]) (by kernel_rfl) (by kernel_rfl) (fun W hW => ?_)
          have hq : ∀ i, W.cell? ⟨w3.heap.size, i, none⟩ = wr.cell? ⟨w3.heap.size, i, none⟩ := fun i => World.cell?_of_block (hW.o w3.heap.size (by omega))
          refine hK.out _ _ ⟨?_, fun hno => absurd hno (by decide)⟩ (fun hHeld => ?_)
          · exact ⟨(hq 0).trans d0, (hq 1).trans d1, (hq 2).trans d2, (hq 3).trans d3, (hq 4).trans d4, (hq 5).trans d5, (hq 6).trans d6, (hq 7).trans d7, (hq 8).trans d8⟩
          clear hK K
          refine wpAnyS_take (i := 5) (v := .bool (decide (0 < (rz : Int)))) _ rfl (by kernel_rfl) (by kernel_rfl) (by kernel_rfl) (by kernel_rfl) (by kernel_rfl) rfl (fun _ _ _ h => h) (Or.inl ⟨by rfl, ?_⟩) hHeld (fun hHeld => ?_)
          · (intro w1 hSw; have hSw := hSw.1; (try dsimp only at hSw); go_simp)
          simp only [List.getElem_toArray, List.getElem_cons_succ, List.getElem_cons_zero, Act.put, List.setIfInBounds_toArray, List.set_cons_zero, List.set_cons_succ]
          refine wpAnyS_take (i := 6) (v := .int .i64 0) _ rfl (by kernel_rfl) (by kernel_rfl) (by kernel_rfl) (by kernel_rfl) (by kernel_rfl) rfl (fun _ _ _ h => h) (Or.inl ⟨by rfl, ?_⟩) hHeld (fun hHeld => ?_)
          · (intro w1 hSw; have hSw := hSw.1; (try dsimp only at hSw); go_simp)
          simp only [List.getElem_toArray, List.getElem_cons_succ, List.getElem_cons_zero, Act.put, List.setIfInBounds_toArray, List.set_cons_zero, List.set_cons_succ]
          refine wpAnyS_done (by kernel_rfl) ?_ _
          refine NoPanic.normal ?_
          have hx := box9 hW rfl
          have f := fun i hi => (cell_row hx i hi).1
          have f0 := f 0 (by simp [c9])
          have f1 := f 1 (by simp [c9])
          have f2 := f 2 (by simp [c9])
          have f3 := f 3 (by simp [c9])
          have f4 := f 4 (by simp [c9])
          have f5 := f 5 (by simp [c9])
          have f6 := f 6 (by simp [c9])
          have f7 := f 7 (by simp [c9])
          have f8 := f 8 (by simp [c9])
          simp only [c9, List.getElem_toArray, List.getElem_cons_zero, List.getElem_cons_succ] at f0 f1 f2 f3 f4 f5 f6 f7 f8
          have hdz : decide ((0 : Int) < (rz : Int)) = decide (0 < rz) := by simp
          have HE1 : Hid (G17 R wm L D t w (.returned (.tuple #[.agg (c9 ⟨(.slice va rD.length vc), rD, rf, rz, ra⟩).toArray, .bool (decide ((0 : Int) < (rz : Int))), .int .i64 0])) W) := by
            rw [hdz]
            exact ⟨(HBr.out.drew).trans (hW.b _ (Nat.le_succ _)), .inr (.inr ⟨HZ.out, HRB.out, ⟨(.slice va rD.length vc), rD, rf, rz, ra⟩, rfl, sreads_box (HSr.out.below (Below.refl _ _).drew) HXr.out hW, HMr.out⟩)⟩
          clear hW hx f hq hdz d0 d1 d2 d3 d4 d5 d6 d7 d8
          go_wp2_with fail
          refine bodyPost_ret (v := .tuple #[.agg (c9 ⟨(.slice va rD.length vc), rD, rf, rz, ra⟩).toArray, .bool (decide ((0 : Int) < (rz : Int))), .int .i64 0]) (by simp [results, Tryz.results10, go_sem, f0, f1, f2, f3, f4, f5, f6, f7, f8, c9]) rfl ?_
          exact HE1.out
end Go.Proofs.YtoenijflijfogaaGreat
