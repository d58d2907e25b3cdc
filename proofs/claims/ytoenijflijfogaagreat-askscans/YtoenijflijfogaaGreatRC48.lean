/- BR1 BR2, joined. -/
import Derived.Test.YtoenijflijfogaaGreatRC30
import Derived.Test.YtoenijflijfogaaGreatRC47
/- Layer 17: the reference's Get (written by mkbr1.py). -/
namespace Go.Proofs.YtoenijflijfogaaGreat
open Go.RowKit

theorem right_t (D : List ByteArray) (t : Int) : rightBK D t 0 = (mayB D && isT t) := by
  unfold rightBK isT
  cases mayB D
  · rfl
  · rw [Bool.true_and, Bool.true_and, Bool.eq_iff_iff]
    simp only [Bool.and_eq_true, decide_eq_true_eq]
    omega
/-- What the loop keeps: the row so far, but for what is known, and this beside it. -/
structure GtJ (D : List ByteArray) (t : Int) (xs : List It) (V : World) (k : Nat) (r : It) (z : Ag) (wr : World) : Prop where
  c : wr.heap[V.heap.size]? = some (.cells (c9 { r with a := z }).toArray 42)
  d : wr.heap[V.heap.size + 1]? = some (.cells (ag6 r.a).toArray 36)
  s : SReads V r.v r.D
  m : itR r = getF D t ((xs.map itR).take k)
  g : Gd r.a
  b : Below V.heap.size V wr
theorem GtJ.below {D : List ByteArray} {t : Int} {xs : List It} {V : World} {k : Nat} {r : It} {z : Ag} {wr W : World} (h : GtJ D t xs V k r z wr) (hb : Below wr.heap.size wr W) : GtJ D t xs V k r z W :=
  ⟨(hb.block _ (Array.getElem?_eq_some_iff.1 h.c).1).trans h.c, (hb.block _ (Array.getElem?_eq_some_iff.1 h.d).1).trans h.d, h.s, h.m, h.g, h.b.trans (hb.mono h.b.size)⟩
end Go.Proofs.YtoenijflijfogaaGreat

/- Layer 17: the reference's Scan. -/
namespace Go.Proofs.YtoenijflijfogaaGreat
open Go.RowKit

set_option maxRecDepth 100000 in
set_option maxHeartbeats 600000 in
theorem refBegins17_aux (a b a' : Option Addr) (n m ca cb cap' : Nat) (B : Bool) (cm : Int) (w : World) (hcm : (cm == 0) = B) (hnm : (m : Int) ≤ (n : Int)) (_ : (n : Int) ≤ 9223372036854775807) (hsl : ∀ w', (Instr.slice 26 (.slice a n ca) none (some (.int .i64 (m : Int))) none).run Tryz.prog w' = .ok (.slice a' m cap') w') (hq : Calls Tryz.prog 18 #[.slice a' m cap', .slice b m cb] w fun e w' => e = .returned (.int .i64 cm) ∧ Below w.heap.size w w') : Calls Tryz.prog 35 #[.slice a n ca, .slice b m cb] w fun e w' => e = .returned (.bool B) ∧ Below w.heap.size w w' := by
  have HEQ : Hid (Calls Tryz.prog 18 #[.slice a' m cap', .slice b m cb] w fun e w' => e = .returned (.int .i64 cm) ∧ Below w.heap.size w w') := hq
  clear hq
  go_enter Tryz.func35, Tryz.ntmps35
  go_wp2_with fail
  refine HEQ.out.mono ?_
  rintro e w1 ⟨rfl, hb1⟩
  have HB1 : Hid (Below w.heap.size w w1) := hb1
  clear hb1
  cases B with
  | true =>
    have hc : cm = 0 := by simpa using hcm
    subst hc
    go_wp2_with fail
    go_ret
    exact ⟨rfl, HB1.out⟩
  | false =>
    go_wp2_with fail
    go_ret
    exact ⟨rfl, HB1.out⟩
set_option maxRecDepth 100000 in
set_option maxHeartbeats 600000 in
theorem refBegins17_no (a b : Option Addr) (n m ca cb : Nat) (w : World) (hnm : ¬ (m : Int) ≤ (n : Int)) (_ : (m : Int) ≤ 9223372036854775807) : Calls Tryz.prog 35 #[.slice a n ca, .slice b m cb] w fun e w' => e = .returned (.bool false) ∧ Below w.heap.size w w' := by
  go_enter Tryz.func35, Tryz.ntmps35
  go_wp2_with fail
  go_ret
  exact ⟨rfl, Below.refl _ _⟩
theorem refBegins17_any (v u : Value) (D F : List ByteArray) (w : World) (hD : SReads w v D) (hF : SReads w u F) : Calls Tryz.prog 35 #[v, u] w fun e w' => e = .returned (.bool (decide (D.take F.length = F))) ∧ Below w.heap.size w w' := by
  obtain ⟨a, ca, rfl, hla⟩ := hD.form
  obtain ⟨b, cb, rfl, hlb⟩ := hF.form
  unfold maxLen at hla hlb
  by_cases hn : F.length ≤ D.length
  · obtain ⟨a', cap', hsl, hSR⟩ := ssl_upto hD hn
    have hl : (D.take F.length).length = F.length := by simp; omega
    have hq := order_anyK _ _ (D.take F.length) F w (by simpa [hl] using hSR) hF
    have hcm : (cmpL (D.take F.length) F == 0) = decide (D.take F.length = F) := by
      rw [Bool.eq_iff_iff, beq_iff_eq, decide_eq_true_iff]; exact cmpL_zero _ _
    exact refBegins17_aux a b a' D.length F.length ca cb cap' _ _ w hcm (by omega) (by omega) hsl hq
  · rw [decide_eq_false (fun h => hn (by have := congrArg List.length h; rw [List.length_take] at this; omega))]
    exact refBegins17_no a b D.length F.length ca cb w (by omega) (by omega)
set_option maxRecDepth 100000 in
set_option maxHeartbeats 600000 in
theorem refRanged17_any (f t : Int) (w : World) : Calls Tryz.prog 34 #[.int .i64 f, .int .i64 t] w fun e w' => e = .returned (.bool (decide (0 ≤ f ∧ f ≤ t ∧ t ≤ 1099511627776))) ∧ w' = w := by
  have hT : ∀ x, isT x = decide (0 ≤ x ∧ x ≤ 1099511627776) := fun x => by unfold isT; rw [Bool.eq_iff_iff]; simp
  obtain ⟨B, HB⟩ := hid_ex (decide (0 ≤ f ∧ f ≤ t ∧ t ≤ 1099511627776))
  rw [← HB.out]
  go_enter Tryz.func34, Tryz.ntmps34
  go_wp2_with fail
  refine (refTime_any f w).mono ?_
  rintro e w' ⟨rfl, hw'⟩
  subst w'
  rw [hT f]
  by_cases h1 : 0 ≤ f ∧ f ≤ 1099511627776
  · rw [decide_eq_true h1]
    go_wp2_with fail
    refine (refTime_any t w).mono ?_
    rintro e w' ⟨rfl, hw'⟩
    subst w'
    rw [hT t]
    by_cases h2 : 0 ≤ t ∧ t ≤ 1099511627776
    · rw [decide_eq_true h2]
      by_cases h3 : f ≤ t
      · have hB : Hid (B = true) := HB.out.trans (decide_eq_true (by omega))
        go_wp2_with fail
        go_ret
        exact ⟨by rw [hB.out]; rfl, rfl⟩
      · have hB : Hid (B = decide (f ≤ t)) := HB.out.trans ((decide_eq_false (by omega)).trans (decide_eq_false h3).symm)
        go_wp2_with fail
        go_ret
        exact ⟨by rw [hB.out]; rfl, rfl⟩
    · have hB : Hid (B = false) := HB.out.trans (decide_eq_false (by omega))
      rw [decide_eq_false h2]
      clear h1 h2
      go_wp2_with fail
      go_ret
      exact ⟨by rw [hB.out]; rfl, rfl⟩
  · have hB : Hid (B = false) := HB.out.trans (decide_eq_false (by omega))
    rw [decide_eq_false h1]
    clear h1
    go_wp2_with fail
    go_ret
    exact ⟨by rw [hB.out]; rfl, rfl⟩
theorem right_0 (D : List ByteArray) : rightBK D 0 0 = mayB D := by rw [right_t]; simp [isT]
set_option maxRecDepth 100000 in
set_option maxHeartbeats 4000000 in
theorem refScan17_any (R : Rl) (wm : Int) (v : Value) (L : List En) (dv : Value) (D : List ByteArray) (f t : Int) (w : World) (hL : Lies R w.heap.size w) (hE : EReads w v L) (hl : L.length ≤ 100000) (hk : ∀ x ∈ L, x.1.length ≤ 1000) (hD : SReads w dv D) :
    Calls Tryz.prog 15 #[.agg #[.slice R.a R.len R.cap, .int .i64 R.kp], .int .i64 wm, v, dv, .int .i64 f, .int .i64 t] w (RwPost (scQ R wm L D f t) (scE R wm L D f t) w) := by
  obtain ⟨a, cap, rfl, hm1, hm2⟩ := hE.form
  obtain ⟨da, dc, rfl, hdl⟩ := hD.form
  unfold maxLen at hdl
  obtain ⟨w1, HW1⟩ := hid_ex (w.alloc (.cells #[.slice R.a R.len R.cap, .int .i64 R.kp] 24))
  have hb1 : Below w.heap.size w w1 := by rw [HW1.out]; exact (Below.refl _ _).alloc (Nat.le_refl _) _
  have hX1 : w1.heap[w.heap.size]? = some (.cells #[.slice R.a R.len R.cap, .int .i64 R.kp] 24) := by rw [HW1.out]; exact heap_alloc_new _ _
  have c0 := (cell_row hX1 0 (by simp)).1
  have c1 := (cell_row hX1 1 (by simp)).1
  simp only [List.getElem_toArray, List.getElem_cons_zero, List.getElem_cons_succ] at c0 c1
  have HB1 : Hid (Below w.heap.size w w1) := hb1
  have HF : Hid (Calls Tryz.prog 26 #[.agg #[.slice R.a R.len R.cap, .int .i64 R.kp], .int .i64 wm, .slice a L.length cap] w1 (RowsP R wm L w1)) := refRows17_any R wm _ L _ (hL.at hb1) (hE.below hb1) hl hk
  have HD1 : Hid (SReads w1 (.slice da D.length dc) D) := hD.below hb1
  have HLE : Hid ((rowsE R wm L).length ≤ 100000) := Nat.le_trans (rowsE_len R wm L) hl
  clear hL hE hl hk hD hb1 hX1
  obtain ⟨dn, Hdn⟩ := hid_ex D.length
  rw [← Hdn.out] at HD1 hdl ⊢
  obtain ⟨q, HQ⟩ := hid_ex (scQ R wm L D f t)
  obtain ⟨c, HC⟩ := hid_ex (scE R wm L D f t)
  rw [← HQ.out, ← HC.out]
  go_enter Tryz.func15, Tryz.ntmps15
  go_wp2_with fail
  rw [← HW1.out]
  clear HW1
  refine HF.out.mono ?_
  clear HF c0 c1
  rintro e w2 ⟨hb2, v2, xs, rfl, hT, hm, hok⟩
  obtain ⟨xa, xc, hxv, -, -⟩ := hT.form17
  subst hxv
  have HB2 : Hid (Below w.heap.size w w2) := HB1.out.trans (hb2.mono HB1.out.size)
  have HD2 : Hid (SReads w2 (.slice da dn dc) D) := HD1.out.below hb2
  by_cases hz : chkF R wm L = 0
  · have HZ : Hid (chkF R wm L = 0) := hz
    have HM : Hid (xs.map itR = rowsE R wm L) := by
      have h1 := hm
      unfold rwQ at h1
      rw [if_pos hz] at h1
      exact h1
    have HOK : Hid (∀ x ∈ xs, RwOk x) := hok
    have hnl : xs.length ≤ 100000 := by have := HLE.out; rw [← HM.out, List.length_map] at this; exact this
    obtain ⟨n, Hn⟩ := hid_ex xs.length
    rw [← Hn.out] at hT hnl ⊢
    have HT3 : Hid (TReads w2 (.slice xa n xc) xs) := hT
    have HFT : Hid (Calls Tryz.prog 27 #[.slice da dn dc] w2 fun e w' => e = .returned (.bool (mayB D)) ∧ w' = w2) := fits_anyK _ D w2 HD2.out
    rw [hz]
    clear hz hok hm hT hb2 HB1 HD1
    go_wp2_with fail
    refine HFT.out.mono ?_
    clear HFT
    rintro e w' ⟨rfl, hw'⟩
    subst w'
    cases hrb : mayB D with
    | false =>
      obtain ⟨h1, h2⟩ := scE_dims (D := D) (f := f) (t := t) HZ.out (by rw [right_0]; exact hrb)
      rw [← HC.out] at h1
      rw [← HQ.out] at h2
      subst h2
      have HEnd : Hid (RwPost [] c w (.returned (.tuple #[.slice none 0 0, .int .i64 110])) w2) := by rw [← h1]; exact RwPost.none HB2.out
      clear hrb h1 HC
      go_wp2_with fail
      go_ret2
      exact HEnd.out
    | true =>
      by_cases hrg : 0 ≤ f ∧ f ≤ t ∧ t ≤ 1099511627776
      · obtain ⟨h1, h2⟩ := scE_ok (D := D) (f := f) (t := t) HZ.out (by rw [right_0]; exact hrb) hrg
        rw [← HC.out] at h1
        rw [← HQ.out] at h2
        subst h1
        have HQ2 : Hid (q = scanF D f t (xs.map itR)) := by show q = _; rw [HM.out]; exact h2
        have HIR := refRanged17_any f t w2
        rw [decide_eq_true hrg] at HIR
        have HIR2 : Hid (Calls Tryz.prog 34 #[.int .i64 f, .int .i64 t] w2 fun e w' => e = .returned (.bool true) ∧ w' = w2) := HIR
        clear hrb h2 HC HQ HIR HM HZ
        go_wp2_with fail
        refine HIR2.out.mono ?_
        rintro e w' ⟨rfl, hw'⟩
        subst w'
        clear HIR2 hrg
        have HI0 : Hid (TG 42 w2.heap.size w2 w2 (.slice none 0 0) []) := TG.nil (Below.refl _ _)
        go_wp2_with fail
        go_loopw [16, 17] (fun o i wr => ∃ (k : Nat) (ys : List It), k ≤ n ∧ i = .int .i64 (k : Int) ∧ Hid (TG 42 w2.heap.size w2 wr o ys) ∧ Hid (ys.map itR = scanF D f t ((xs.map itR).take k)) ∧ Hid (∀ y ∈ ys, y ∈ xs) ∧ Hid (w2.heap.size ≤ wr.heap.size)) (fun _ i _ => n - (intOf i).toNat)
        case atStart => exact ⟨0, [], by omega, rfl, HI0, rfl, (fun y hy => by cases hy), Nat.le_refl _⟩
        case round =>
          clear HI0
          obtain ⟨k, ys, hk, rfl, HG, HY, HS, HSZ⟩ := hrel
          by_cases hlt : k < n
          · have hlt' : (k : Int) < (n : Int) := by omega
            have hkx : k < xs.length := by rw [← Hn.out]; exact hlt
            have hkm : k < (xs.map itR).length := by simpa using hkx
            have hsn : (xs.map itR)[k] = itR xs[k] := List.getElem_map ..
            have HMM : Hid (xs[k] ∈ xs) := List.getElem_mem hkx
            have HYL : Hid (ys.length < 1000000) := by
              have h1 := congrArg List.length HY.out
              have h2 := scanF_len D f t ((xs.map itR).take k)
              rw [List.length_map] at h1
              rw [List.length_take, List.length_map] at h2
              show _ < _
              omega
            obtain ⟨x, Hx⟩ := hid_ex xs[k]
            rw [← Hx.out] at hsn HMM
            obtain ⟨xv, xD, xf, xz, xg⟩ := x
            obtain ⟨b, o, rfl, hn9, hsr⟩ := HT3.out.nine hkx Hx.out.symm
            obtain ⟨va, vc, hv, -⟩ := hsr.form
            obtain ⟨xn, Hxn⟩ := hid_ex xD.length
            rw [← Hxn.out] at hv
            subst hv
            have HSX : Hid (SReads w2 (.slice va xn vc) xD) := hsr
            have HNr : Hid (N9 wr b (o + k * 9) (.slice va xn vc) xf xz xg.c (hi xg.s) (lo xg.s) xg.mn xg.mx xg.o) := hn9.below HG.out.b
            have HNO : Hid ((decide (xD.take D.length = D) && decide (f ≤ xf ∧ xf < t)) = false → ys.map itR = scanF D f t ((xs.map itR).take (k + 1))) := fun hn => (scanF_no hkm hsn hn).symm ▸ HY.out
            have HYES : Hid ((decide (xD.take D.length = D) && decide (f ≤ xf ∧ xf < t)) = true → (ys ++ [(⟨.slice va xn vc, xD, xf, xz, xg⟩ : It)]).map itR = scanF D f t ((xs.map itR).take (k + 1))) := fun hn => by rw [scanF_yes hkm hsn hn, List.map_append, HY.out]; rfl
            have HEQ : Hid (Calls Tryz.prog 35 #[.slice va xn vc, .slice da dn dc] wr fun e w' => e = .returned (.bool (decide (xD.take D.length = D))) ∧ Below wr.heap.size wr w') := refBegins17_any _ _ _ _ _ (HSX.out.below HG.out.b) (HD2.out.below HG.out.b)
            have y0 := HNr.out.c0
            clear hsr hsn hn9 hkx hkm Hx Hxn HY
            go_wp2_with fail
            refine HEQ.out.mono ?_
            clear HEQ y0
            rintro e w6 ⟨rfl, hb6⟩
            have HN6 : Hid (N9 w6 b (o + k * 9) (.slice va xn vc) xf xz xg.c (hi xg.s) (lo xg.s) xg.mn xg.mx xg.o) := HNr.out.below hb6
            have HG6 : Hid (TG 42 w2.heap.size w2 w6 u16 ys) := HG.out.below hb6 HSZ.out
            have HS6 : Hid (w2.heap.size ≤ w6.heap.size) := Nat.le_trans HSZ.out hb6.size
            clear hb6 HNr HG HSZ
            obtain ⟨y0, y1, y2, y3, y4, y5, y6, y7, y8, -⟩ := HN6.out
            cases hbe : decide (xD.take D.length = D) with
            | false =>
              rw [hbe] at HNO
              have HN2 : Hid (ys.map itR = scanF D f t ((xs.map itR).take (k + 1))) := HNO.out (Bool.false_and _)
              clear HNO HYES hbe
              go_wp2_with fail
              go_roundw
              case rel => exact ⟨k + 1, ys, by omega, by go_num, HG6, HN2, HS, HS6⟩
              case measure => simp [intOf]; omega
            | true =>
              rw [hbe] at HNO HYES
              clear hbe
              by_cases h1 : f ≤ xf
              · by_cases h2 : xf < t
                · have HN2 : Hid ((ys ++ [(⟨.slice va xn vc, xD, xf, xz, xg⟩ : It)]).map itR = scanF D f t ((xs.map itR).take (k + 1))) := HYES.out (by rw [decide_eq_true (show f ≤ xf ∧ xf < t from ⟨h1, h2⟩)]; rfl)
                  obtain ⟨v8, w8, hrun, hg8, hs8⟩ := HG6.out.app Tryz.underlying46 infoRf HS6.out ⟨.slice va xn vc, xD, xf, xz, xg⟩ HSX.out HYL.out
                  simp only [c9] at hrun
                  have HG8 : Hid (TG 42 w2.heap.size w2 w8 v8 (ys ++ [⟨.slice va xn vc, xD, xf, xz, xg⟩])) := hg8
                  have HSN : Hid (∀ y ∈ ys ++ [(⟨.slice va xn vc, xD, xf, xz, xg⟩ : It)], y ∈ xs) := fun y hy => by
                    rcases List.mem_append.1 hy with hy | hy
                    · exact HS.out y hy
                    · obtain rfl : y = _ := by simpa using hy
                      exact HMM.out
                  obtain ⟨oa, oc, hov, -⟩ := GOwn.form HG6.out.o
                  obtain ⟨M, HM9⟩ : ∃ m, Hid (ys.length = m) := ⟨_, rfl⟩
                  rw [HM9.out] at hov
                  subst hov
                  clear HNO HYES hg8
                  go_wp2_with (at_builtin; refine wpList_app_runG rfl _ _ 46 46 rfl rfl _ _ _ rfl rfl hrun ?_)
                  go_roundw
                  case rel => exact ⟨k + 1, _, by omega, by go_num, HG8, HN2, HSN, hs8⟩
                  case measure => simp [intOf]; omega
                · have HN2 : Hid (ys.map itR = scanF D f t ((xs.map itR).take (k + 1))) := HNO.out (by rw [decide_eq_false (show ¬ (f ≤ xf ∧ xf < t) from fun h => h2 h.2)]; rfl)
                  clear HNO HYES
                  go_wp2_with fail
                  go_roundw
                  case rel => exact ⟨k + 1, ys, by omega, by go_num, HG6, HN2, HS, HS6⟩
                  case measure => simp [intOf]; omega
              · have HN2 : Hid (ys.map itR = scanF D f t ((xs.map itR).take (k + 1))) := HNO.out (by rw [decide_eq_false (show ¬ (f ≤ xf ∧ xf < t) from fun h => h1 h.1)]; rfl)
                clear HNO HYES
                go_wp2_with fail
                go_roundw
                case rel => exact ⟨k + 1, ys, by omega, by go_num, HG6, HN2, HS, HS6⟩
                case measure => simp [intOf]; omega
          · obtain rfl : k = n := by omega
            have hlt' : ¬ (k : Int) < (k : Int) := by omega
            have HEnd : Hid (∃ a cap, u16 = .slice a ys.length cap ∧ RwPost q 0 w (.returned (.tuple #[.slice a ys.length cap, .int .i64 0])) wr) := by
              have hr := HG.out.reads
              obtain ⟨a, cap, hv, _⟩ := hr.form
              subst hv
              refine ⟨a, cap, rfl, HB2.out.trans (HG.out.b.mono HB2.out.size), a, cap, ys, rfl, hr, ?_, fun y hy => HOK.out y (HS.out y hy)⟩
              rw [HY.out, HQ2.out, List.take_of_length_le (by rw [List.length_map, Hn.out]; exact Nat.le_refl _)]
            obtain ⟨oa, oc, hov, HP⟩ := HEnd.out
            obtain ⟨M, HM9⟩ : ∃ m, Hid (ys.length = m) := ⟨_, rfl⟩
            rw [HM9.out] at hov HP
            subst hov
            have HP2 : Hid (RwPost q 0 w (.returned (.tuple #[.slice oa M oc, .int .i64 0])) wr) := HP
            clear HP HEnd HG HY
            go_wp2_with fail
            go_ret2
            exact HP2.out
      · obtain ⟨h1, h2⟩ := scE_rng (D := D) (f := f) (t := t) HZ.out (by rw [right_0]; exact hrb) hrg
        rw [← HC.out] at h1
        rw [← HQ.out] at h2
        subst h2
        have HEnd : Hid (RwPost [] c w (.returned (.tuple #[.slice none 0 0, .int .i64 1])) w2) := by rw [← h1]; exact RwPost.none HB2.out
        have HIR := refRanged17_any f t w2
        rw [decide_eq_false hrg] at HIR
        have HIR2 : Hid (Calls Tryz.prog 34 #[.int .i64 f, .int .i64 t] w2 fun e w' => e = .returned (.bool false) ∧ w' = w2) := HIR
        clear hrb h1 HC HIR hrg
        go_wp2_with fail
        refine HIR2.out.mono ?_
        rintro e w' ⟨rfl, hw'⟩
        subst w'
        clear HIR2
        go_wp2_with fail
        go_ret2
        exact HEnd.out
  · have hb0 : (chkF R wm L == 0) = false := by simp [hz]
    have hb0' : (chkF R wm L != 0) = true := by simp [hz]
    obtain ⟨h1, h2⟩ := scE_chk (D := D) (f := f) (t := t) hz
    rw [← HC.out] at h1
    rw [← HQ.out] at h2
    subst h2
    have HEnd : Hid (RwPost [] c w (.returned (.tuple #[.slice none 0 0, .int .i64 (chkF R wm L)])) w2) := by rw [← h1]; exact RwPost.none HB2.out
    clear hz hb2 h1 HC hT hm hok
    generalize chkF R wm L = rr at *
    go_wp2_with fail
    go_ret2
    exact HEnd.out
end Go.Proofs.YtoenijflijfogaaGreat
