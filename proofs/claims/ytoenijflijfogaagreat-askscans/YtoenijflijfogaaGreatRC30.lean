/- AQ6, joined. -/
import Derived.Test.YtoenijflijfogaaGreatRC29
/- The contract of ask.Scan. -/
namespace Go.Proofs.YtoenijflijfogaaGreat
open Go.RowKit

/-- What Scan says. -/
noncomputable def scE (R : Rl) (wm : Int) (L : List En) (D : List ByteArray) (f t : Int) : Int := if chkF R wm L ≠ 0 then chkF R wm L else if rightBK D 0 0 = false then 110 else if 0 ≤ f ∧ f ≤ t ∧ t ≤ 1099511627776 then 0 else 1
noncomputable def scQ (R : Rl) (wm : Int) (L : List En) (D : List ByteArray) (f t : Int) : List Rw := if scE R wm L D f t = 0 then scanF D f t (rowsE R wm L) else []
/-- What calls that tell rows tell: rows, and a number. -/
def RwPost (rs : List Rw) (c : Int) (w : World) (e : Ending) (w' : World) : Prop :=
  Below w.heap.size w w' ∧ ∃ a cap ys, e = .returned (.tuple #[.slice a ys.length cap, .int .i64 c]) ∧ TReads w' (.slice a ys.length cap) ys ∧ ys.map itR = rs ∧ ∀ y ∈ ys, RwOk y
theorem RwPost.none {c : Int} {w w' : World} (h : Below w.heap.size w w') : RwPost [] c w (.returned (.tuple #[.slice none 0 0, .int .i64 c])) w' :=
  ⟨h, Option.none, 0, [], rfl, ⟨Option.none, 0, rfl, Nat.le_refl _, Nat.zero_le _, .inl rfl⟩, rfl, fun y hy => by cases hy⟩
theorem scE_chk {R : Rl} {wm : Int} {L : List En} {D : List ByteArray} {f t : Int} (h : chkF R wm L ≠ 0) : scE R wm L D f t = chkF R wm L ∧ scQ R wm L D f t = [] := by
  have : scE R wm L D f t = chkF R wm L := by unfold scE; rw [if_pos h]
  exact ⟨this, by unfold scQ; rw [this, if_neg h]⟩
theorem scE_dims {R : Rl} {wm : Int} {L : List En} {D : List ByteArray} {f t : Int} (h : chkF R wm L = 0) (h2 : rightBK D 0 0 = false) : scE R wm L D f t = 110 ∧ scQ R wm L D f t = [] := by
  have : scE R wm L D f t = 110 := by unfold scE; rw [if_neg (by simp [h]), if_pos h2]
  exact ⟨this, by unfold scQ; rw [this, if_neg (by decide)]⟩
theorem scE_rng {R : Rl} {wm : Int} {L : List En} {D : List ByteArray} {f t : Int} (h : chkF R wm L = 0) (h2 : rightBK D 0 0 = true) (h3 : ¬ (0 ≤ f ∧ f ≤ t ∧ t ≤ 1099511627776)) : scE R wm L D f t = 1 ∧ scQ R wm L D f t = [] := by
  have : scE R wm L D f t = 1 := by unfold scE; rw [if_neg (by simp [h]), if_neg (by simp [h2]), if_neg h3]
  exact ⟨this, by unfold scQ; rw [this, if_neg (by decide)]⟩
theorem scE_ok {R : Rl} {wm : Int} {L : List En} {D : List ByteArray} {f t : Int} (h : chkF R wm L = 0) (h2 : rightBK D 0 0 = true) (h3 : 0 ≤ f ∧ f ≤ t ∧ t ≤ 1099511627776) : scE R wm L D f t = 0 ∧ scQ R wm L D f t = scanF D f t (rowsE R wm L) := by
  have : scE R wm L D f t = 0 := by unfold scE; rw [if_neg (by simp [h]), if_neg (by simp [h2]), if_pos h3]
  exact ⟨this, by unfold scQ; rw [this, if_pos rfl]⟩
set_option maxRecDepth 100000 in
set_option maxHeartbeats 2000000 in
theorem scan17_any (R : Rl) (wm : Int) (v : Value) (L : List En) (dv : Value) (D : List ByteArray) (f t : Int) (w : World) (hL : Lies R w.heap.size w) (hE : EReads w v L) (hl : L.length ≤ 100000) (hk : ∀ x ∈ L, x.1.length ≤ 1000) (hD : SReads w dv D) :
    Calls Tryz.prog 14 #[.agg #[.slice R.a R.len R.cap, .int .i64 R.kp], .int .i64 wm, v, dv, .int .i64 f, .int .i64 t] w (RwPost (scQ R wm L D f t) (scE R wm L D f t) w) := by
  obtain ⟨a, cap, rfl, hm1, hm2⟩ := hE.form
  obtain ⟨da, dc, rfl, hdl⟩ := hD.form
  unfold maxLen at hdl
  obtain ⟨w1, HW1⟩ := hid_ex (w.alloc (.cells #[.slice R.a R.len R.cap, .int .i64 R.kp] 24))
  have hb1 : Below w.heap.size w w1 := by rw [HW1.out]; exact (Below.refl _ _).alloc (Nat.le_refl _) _
  have hX1 : w1.heap[w.heap.size]? = some (.cells #[.slice R.a R.len R.cap, .int .i64 R.kp] 24) := by rw [HW1.out]; exact heap_alloc_new _ _
  have c0 := (cell_row hX1 0 (by simp)).1
  have c1 := (cell_row hX1 1 (by simp)).1
  simp only [List.getElem_toArray, List.getElem_cons_zero, List.getElem_cons_succ] at c0 c1
  have HB1 : Hid (Below w.heap.size w w1) := hb1
  have HF : Hid (Calls Tryz.prog 22 #[.agg #[.slice R.a R.len R.cap, .int .i64 R.kp], .int .i64 wm, .slice a L.length cap] w1 (F17 R wm L w1)) := folded17_any R wm _ L _ (hL.at hb1) (hE.below hb1) hl hk
  have HD1 : Hid (SReads w1 (.slice da D.length dc) D) := hD.below hb1
  have HLE : Hid ((rowsE R wm L).length ≤ 100000) := Nat.le_trans (rowsE_len R wm L) hl
  clear hL hE hl hk hD hb1 hX1
  obtain ⟨dn, Hdn⟩ := hid_ex D.length
  rw [← Hdn.out] at HD1 hdl ⊢
  obtain ⟨q, HQ⟩ := hid_ex (scQ R wm L D f t)
  obtain ⟨c, HC⟩ := hid_ex (scE R wm L D f t)
  rw [← HQ.out, ← HC.out]
  go_enter Tryz.func14, Tryz.ntmps14
  go_wp2_with fail
  rw [← HW1.out]
  clear HW1
  refine HF.out.mono ?_
  clear HF c0 c1
  rintro e w2 ⟨hb2, ⟨hne, rfl⟩ | ⟨hz, g, xs, rfl, hT, hm, hok⟩⟩
  · have hb0 : (chkF R wm L == 0) = false := by simp [hne]
    have hb0' : (chkF R wm L != 0) = true := by simp [hne]
    obtain ⟨h1, h2⟩ := scE_chk (D := D) (f := f) (t := t) hne
    rw [← HC.out] at h1
    rw [← HQ.out] at h2
    subst h2
    have HEnd : Hid (RwPost [] c w (.returned (.tuple #[.slice none 0 0, .int .i64 (chkF R wm L)])) w2) := by rw [← h1]; exact RwPost.none (HB1.out.trans (hb2.mono HB1.out.size))
    clear hne hb2 h1 HC
    generalize chkF R wm L = rr at *
    go_wp2_with fail
    go_ret2
    exact HEnd.out
  · have HB2 : Hid (Below w.heap.size w w2) := HB1.out.trans (hb2.mono HB1.out.size)
    have HD2 : Hid (SReads w2 (.slice da dn dc) D) := HD1.out.below hb2
    have HRC : Hid (Calls Tryz.prog 23 #[.agg #[.slice da dn dc, .int .i64 0, .int .i64 0]] w2 fun e w' => e = .returned (.bool (rightBK D 0 0)) ∧ Below w2.heap.size w2 w') := right_anyK ⟨.slice da dn dc, D, 0, 0⟩ w2 ⟨HD2.out, by show (-9223372036854775808 : Int) ≤ 0; omega, by show (0 : Int) ≤ 9223372036854775807; omega, by show (-9223372036854775808 : Int) ≤ 0; omega, by show (0 : Int) ≤ 9223372036854775807; omega⟩
    have HZ : Hid (chkF R wm L = 0) := hz
    have HOK : Hid (∀ x ∈ xs, RwOk x) := hok
    have HM : Hid (xs.map itR = rowsE R wm L) := hm
    have HXL : Hid (xs.length ≤ 100000) := by have := HLE.out; rw [← hm, List.length_map] at this; exact this
    obtain ⟨n, Hn⟩ := hid_ex xs.length
    rw [← Hn.out] at hT HXL ⊢
    have HT2 : Hid (TReads w2 (.slice (some ⟨g, 0, none⟩) n n) xs) := hT
    have hnl := HXL.out
    clear hz hok hm hT hb2 HB1 HD1
    go_wp2_with fail
    refine HRC.out.mono ?_
    clear HRC
    rintro e w3 ⟨rfl, hb3⟩
    have HB3 : Hid (Below w.heap.size w w3) := HB2.out.trans (hb3.mono HB2.out.size)
    have HD3 : Hid (SReads w3 (.slice da dn dc) D) := HD2.out.below hb3
    have HT3 : Hid (TReads w3 (.slice (some ⟨g, 0, none⟩) n n) xs) := HT2.out.below hb3
    clear hb3 HB2 HD2 HT2
    cases hrb : rightBK D 0 0 with
    | false =>
      obtain ⟨h1, h2⟩ := scE_dims (D := D) (f := f) (t := t) HZ.out hrb
      rw [← HC.out] at h1
      rw [← HQ.out] at h2
      subst h2
      have HEnd : Hid (RwPost [] c w (.returned (.tuple #[.slice none 0 0, .int .i64 110])) w3) := by rw [← h1]; exact RwPost.none HB3.out
      clear hrb h1 HC
      go_wp2_with fail
      go_ret2
      exact HEnd.out
    | true =>
      by_cases hrg : 0 ≤ f ∧ f ≤ t ∧ t ≤ 1099511627776
      · obtain ⟨h1, h2⟩ := scE_ok (D := D) (f := f) (t := t) HZ.out hrb hrg
        rw [← HC.out] at h1
        rw [← HQ.out] at h2
        subst h1
        have HQ2 : Hid (q = scanF D f t (xs.map itR)) := by show q = _; rw [HM.out]; exact h2
        have HIR := isRange_any f t w3
        rw [decide_eq_true hrg] at HIR
        have HIR2 : Hid (Calls Tryz.prog 31 #[.int .i64 f, .int .i64 t] w3 fun e w' => e = .returned (.bool true) ∧ w' = w3) := HIR
        clear hrb h2 HC HQ HIR HM HZ
        go_wp2_with fail
        refine HIR2.out.mono ?_
        rintro e w' ⟨rfl, hw'⟩
        subst w'
        clear HIR2 hrg
        have HI0 : Hid (TG 38 w3.heap.size w3 w3 (.slice none 0 0) []) := TG.nil (Below.refl _ _)
        go_wp2_with fail
        go_loopw [16, 39] (fun o i wr => ∃ (k : Nat) (ys : List It), k ≤ n ∧ i = .int .i64 (k : Int) ∧ Hid (TG 38 w3.heap.size w3 wr o ys) ∧ Hid (ys.map itR = scanF D f t ((xs.map itR).take k)) ∧ Hid (∀ y ∈ ys, y ∈ xs) ∧ Hid (w3.heap.size ≤ wr.heap.size)) (fun _ i _ => n - (intOf i).toNat)
        case atStart => exact ⟨0, [], by omega, rfl, HI0, rfl, (fun y hy => by cases hy), Nat.le_refl _⟩
        case round =>
          clear HI0
          obtain ⟨k, ys, hk, rfl, HG, HY, HS, HSZ⟩ := hrel
          by_cases hlt : k < n
          · have hkx : k < xs.length := by rw [← Hn.out]; exact hlt
            obtain ⟨b, off, hgb, hbl, hc9, hsr⟩ := TReads.at HT3.out hkx
            simp only [Option.some.injEq, Addr.mk.injEq] at hgb
            obtain ⟨rfl, hoff, _⟩ := hgb
            subst hoff
            have hkm : k < (xs.map itR).length := by simpa using hkx
            have hsn : (xs.map itR)[k] = itR xs[k] := List.getElem_map ..
            have HMM : Hid (xs[k] ∈ xs) := List.getElem_mem hkx
            have HYL : Hid (ys.length < 1000000) := by
              have h1 := congrArg List.length HY.out
              have h2 := scanF_len D f t ((xs.map itR).take k)
              rw [List.length_map] at h1
              rw [List.length_take, List.length_map] at h2
              show _ < _
              omega
            have hokx := HOK.out xs[k] HMM.out
            obtain ⟨X, HX⟩ := hid_ex xs[k]
            rw [← HX.out] at hc9 hsr hsn HMM hokx
            obtain ⟨xv, xD, xf, xz, xg⟩ := X
            obtain ⟨va, vc, hv, hxl⟩ := hsr.form
            simp only at hv
            subst hv
            have hy : ∀ i (hi : i < 9), wr.cell? ⟨g, k * 9 + i, none⟩ = some ((c9 ⟨.slice va xD.length vc, xD, xf, xz, xg⟩)[i]'hi) := fun i hi => by
              have := hc9 i hi
              rw [Nat.zero_add] at this
              exact (HG.out.b.cell (p := ⟨g, k * 9 + i, none⟩) hbl).trans this
            have y0 := hy 0 (by decide)
            have y1 := hy 1 (by decide)
            have y2 := hy 2 (by decide)
            have y3 := hy 3 (by decide)
            have y4 := hy 4 (by decide)
            have y5 := hy 5 (by decide)
            have y6 := hy 6 (by decide)
            have y7 := hy 7 (by decide)
            have y8 := hy 8 (by decide)
            simp only [c9, List.getElem_cons_zero, List.getElem_cons_succ, Nat.add_zero] at y0 y1 y2 y3 y4 y5 y6 y7 y8
            obtain ⟨hf0, hf1⟩ := hokx.f
            obtain ⟨hz0, hz1⟩ := hokx.z
            simp only at hf0 hf1 hz0 hz1
            have HSX : Hid (SReads w3 (.slice va xD.length vc) xD) := hsr
            have HNO : Hid ((decide (xD.take D.length = D) && decide (f ≤ xf ∧ xf < t)) = false → ys.map itR = scanF D f t ((xs.map itR).take (k + 1))) := fun hn => (scanF_no hkm hsn hn).symm ▸ HY.out
            have HYES : Hid ((decide (xD.take D.length = D) && decide (f ≤ xf ∧ xf < t)) = true → (ys ++ [(⟨.slice va xD.length vc, xD, xf, xz, xg⟩ : It)]).map itR = scanF D f t ((xs.map itR).take (k + 1))) := fun hn => by rw [scanF_yes hkm hsn hn, List.map_append, HY.out]; rfl
            obtain ⟨w5, HW5⟩ := hid_ex (wr.alloc (.cells #[.slice va xD.length vc, .int .i64 xf, .int .i64 (xz : Int), .int .u64 xg.c, .bool xg.o, .int .i64 (hi xg.s), .int .u64 (lo xg.s), .int .i64 xg.mn, .int .i64 xg.mx] 38))
            have hb5 : Below wr.heap.size wr w5 := by rw [HW5.out]; exact new_below _ _
            have HX5 : Hid (w5.heap[wr.heap.size]? = some (.cells #[.slice va xD.length vc, .int .i64 xf, .int .i64 (xz : Int), .int .u64 xg.c, .bool xg.o, .int .i64 (hi xg.s), .int .u64 (lo xg.s), .int .i64 xg.mn, .int .i64 xg.mx] 38)) := by rw [HW5.out]; exact heap_alloc_new _ _
            have HG5 : Hid (TG 38 w3.heap.size w3 w5 u16 ys) := HG.out.below hb5 HSZ.out
            have HS5 : Hid (w3.heap.size ≤ w5.heap.size) := Nat.le_trans HSZ.out hb5.size
            have HEQ : Hid (Calls Tryz.prog 32 #[.slice va xD.length vc, .slice da dn dc] w5 fun e w' => e = .returned (.bool (decide (xD.take D.length = D))) ∧ Below w5.heap.size w5 w') := begins17_any _ _ _ _ _ (HSX.out.below HG5.out.b) (HD3.out.below HG5.out.b)
            have b0 := (cell_row HX5.out 0 (by simp)).1
            simp only [List.getElem_toArray, List.getElem_cons_zero] at b0
            clear hb5 hsr hokx hsn hy hc9 hkx hkm HX HT3 HY HG
            go_wp2_with fail
            rw [← HW5.out]
            clear HW5
            refine HEQ.out.mono ?_
            clear HEQ
            rintro e w6 ⟨rfl, hb6⟩
            have HX6 : Hid (w6.heap[wr.heap.size]? = some (.cells #[.slice va xD.length vc, .int .i64 xf, .int .i64 (xz : Int), .int .u64 xg.c, .bool xg.o, .int .i64 (hi xg.s), .int .u64 (lo xg.s), .int .i64 xg.mn, .int .i64 xg.mx] 38)) := (hb6.block _ (Array.getElem?_eq_some_iff.1 HX5.out).1).trans HX5.out
            have HG6 : Hid (TG 38 w3.heap.size w3 w6 u16 ys) := HG5.out.below hb6 HS5.out
            have HS6 : Hid (w3.heap.size ≤ w6.heap.size) := Nat.le_trans HS5.out hb6.size
            clear hb6 HX5 HG5 HS5 b0
            cases hbe : decide (xD.take D.length = D) with
            | false =>
              rw [hbe] at HNO
              have HN2 : Hid _ := HNO.out (Bool.false_and _)
              clear HNO HYES hbe
              go_wp2_with fail
              go_roundw
              case rel => exact ⟨k + 1, ys, by omega, by go_num, HG6, HN2, HS, HS6⟩
              case measure => simp [intOf]; omega
            | true =>
              rw [hbe] at HNO HYES
              have d0 := (cell_row HX6.out 0 (by simp)).1
              have d1 := (cell_row HX6.out 1 (by simp)).1
              have d2 := (cell_row HX6.out 2 (by simp)).1
              have d3 := (cell_row HX6.out 3 (by simp)).1
              have d4 := (cell_row HX6.out 4 (by simp)).1
              have d5 := (cell_row HX6.out 5 (by simp)).1
              have d6 := (cell_row HX6.out 6 (by simp)).1
              have d7 := (cell_row HX6.out 7 (by simp)).1
              have d8 := (cell_row HX6.out 8 (by simp)).1
              simp only [List.getElem_toArray, List.getElem_cons_zero, List.getElem_cons_succ] at d0 d1 d2 d3 d4 d5 d6 d7 d8
              have HWI : Hid (Calls Tryz.prog 33 #[.agg #[.slice va xD.length vc, .int .i64 xf, .int .i64 (xz : Int), .int .u64 xg.c, .bool xg.o, .int .i64 (hi xg.s), .int .u64 (lo xg.s), .int .i64 xg.mn, .int .i64 xg.mx], .int .i64 f, .int .i64 t] w6 fun e w' => e = .returned (.bool (decide (f ≤ xf ∧ xf < t))) ∧ Below w6.heap.size w6 w') := within_any ⟨.slice va xD.length vc, xD, xf, xz, xg⟩ f t w6
              clear hbe
              go_wp2_with fail
              refine HWI.out.mono ?_
              clear HWI
              rintro e w7 ⟨rfl, hb7⟩
              have HX7 : Hid (w7.heap[wr.heap.size]? = some (.cells #[.slice va xD.length vc, .int .i64 xf, .int .i64 (xz : Int), .int .u64 xg.c, .bool xg.o, .int .i64 (hi xg.s), .int .u64 (lo xg.s), .int .i64 xg.mn, .int .i64 xg.mx] 38)) := (hb7.block _ (Array.getElem?_eq_some_iff.1 HX6.out).1).trans HX6.out
              have HG7 : Hid (TG 38 w3.heap.size w3 w7 u16 ys) := HG6.out.below hb7 HS6.out
              have HS7 : Hid (w3.heap.size ≤ w7.heap.size) := Nat.le_trans HS6.out hb7.size
              clear hb7 HX6 HG6 HS6 d0 d1 d2 d3 d4 d5 d6 d7 d8
              cases hbw : decide (f ≤ xf ∧ xf < t) with
              | false =>
                rw [hbw] at HNO
                have HN2 : Hid _ := HNO.out rfl
                clear HNO HYES hbw
                go_wp2_with fail
                go_roundw
                case rel => exact ⟨k + 1, ys, by omega, by go_num, HG7, HN2, HS, HS7⟩
                case measure => simp [intOf]; omega
              | true =>
                rw [hbw] at HYES
                have HN2 : Hid _ := HYES.out rfl
                have d0 := (cell_row HX7.out 0 (by simp)).1
                have d1 := (cell_row HX7.out 1 (by simp)).1
                have d2 := (cell_row HX7.out 2 (by simp)).1
                have d3 := (cell_row HX7.out 3 (by simp)).1
                have d4 := (cell_row HX7.out 4 (by simp)).1
                have d5 := (cell_row HX7.out 5 (by simp)).1
                have d6 := (cell_row HX7.out 6 (by simp)).1
                have d7 := (cell_row HX7.out 7 (by simp)).1
                have d8 := (cell_row HX7.out 8 (by simp)).1
                simp only [List.getElem_toArray, List.getElem_cons_zero, List.getElem_cons_succ] at d0 d1 d2 d3 d4 d5 d6 d7 d8
                obtain ⟨v8, w8, hrun, hg8, hs8⟩ := HG7.out.app Tryz.underlying48 infoRw HS7.out ⟨.slice va xD.length vc, xD, xf, xz, xg⟩ HSX.out HYL.out
                simp only [c9] at hrun
                have HG8 : Hid (TG 38 w3.heap.size w3 w8 v8 (ys ++ [⟨.slice va xD.length vc, xD, xf, xz, xg⟩])) := hg8
                have HSN : Hid (∀ y ∈ ys ++ [⟨.slice va xD.length vc, xD, xf, xz, xg⟩], y ∈ xs) := fun y hy => by
                  rcases List.mem_append.1 hy with hy | hy
                  · exact HS.out y hy
                  · obtain rfl : y = _ := by simpa using hy
                    exact HMM.out
                obtain ⟨oa, oc, hov, -⟩ := GOwn.form HG7.out.o
                obtain ⟨M, HM9⟩ : ∃ m, Hid (ys.length = m) := ⟨_, rfl⟩
                rw [HM9.out] at hov
                subst hov
                clear HNO HYES hbw hg8
                go_wp2_with (at_builtin; refine wpList_app_runG rfl _ _ 48 48 rfl rfl _ _ _ rfl rfl hrun ?_)
                go_roundw
                case rel => exact ⟨k + 1, _, by omega, by go_num, HG8, HN2, HSN, hs8⟩
                case measure => simp [intOf]; omega
          · obtain rfl : k = n := by omega
            have HEnd : Hid (∃ a cap, u16 = .slice a ys.length cap ∧ RwPost q 0 w (.returned (.tuple #[.slice a ys.length cap, .int .i64 0])) wr) := by
              have hr := HG.out.reads
              obtain ⟨a, cap, hv, _⟩ := hr.form
              subst hv
              refine ⟨a, cap, rfl, HB3.out.trans (HG.out.b.mono HB3.out.size), a, cap, ys, rfl, hr, ?_, fun y hy => HOK.out y (HS.out y hy)⟩
              rw [HY.out, HQ2.out, List.take_of_length_le (by rw [List.length_map, Hn.out]; exact Nat.le_refl _)]
            obtain ⟨oa, oc, hov, HP⟩ := HEnd.out
            obtain ⟨M, HM9⟩ : ∃ m, Hid (ys.length = m) := ⟨_, rfl⟩
            rw [HM9.out] at hov HP
            subst hov
            have HP2 : Hid _ := HP
            clear HP HEnd HG HY
            go_wp2_with fail
            go_ret2
            exact HP2.out
      · obtain ⟨h1, h2⟩ := scE_rng (D := D) (f := f) (t := t) HZ.out hrb hrg
        rw [← HC.out] at h1
        rw [← HQ.out] at h2
        subst h2
        have HEnd : Hid (RwPost [] c w (.returned (.tuple #[.slice none 0 0, .int .i64 1])) w3) := by rw [← h1]; exact RwPost.none HB3.out
        have HIR := isRange_any f t w3
        rw [decide_eq_false hrg] at HIR
        have HIR2 : Hid (Calls Tryz.prog 31 #[.int .i64 f, .int .i64 t] w3 fun e w' => e = .returned (.bool false) ∧ w' = w3) := HIR
        clear hrb h1 HC HIR hrg
        go_wp2_with fail
        refine HIR2.out.mono ?_
        rintro e w' ⟨rfl, hw'⟩
        subst w'
        clear HIR2
        go_wp2_with fail
        go_ret2
        exact HEnd.out
end Go.Proofs.YtoenijflijfogaaGreat
