/- The reference's After. -/
import Derived.Test.YteagbcijpfpjhaaPR2
import Derived.Test.YteagbcijpfpjhaaPR3
namespace Go.Proofs.Yteagbcijpfpjhaa
open Go.RowKit Go.Shelf

theorem outs_take (fs : List Int) (L : List Rn) (k : Nat) (hk : k < L.length) : outs fs (L.take (k + 1)) = if has fs L[k].f then outs fs (L.take k) else outs fs (L.take k) ++ [L[k]] := by
  unfold outs
  rw [List.take_succ_eq_append_getElem hk, List.filter_append]
  by_cases h : has fs L[k].f = true
  · rw [if_pos h]; simp [h]
  · rw [if_neg h]; simp [h]
theorem named_take (fs : List Int) (L : List Rn) (k : Nat) (hk : k < L.length) : named fs (L.take (k + 1)) = named fs (L.take k) + fs.count L[k].f := by
  unfold named
  rw [List.take_succ_eq_append_getElem hk, List.map_append, List.sum_append]
  simp
theorem lft_take (fs : List Int) (L : List Rn) (c : Int) (k : Nat) (hk : k < L.length) : (L.take (k + 1)).foldl (lftS fs) c = lftS fs ((L.take k).foldl (lftS fs) c) L[k] := by
  rw [List.take_succ_eq_append_getElem hk, List.foldl_append]
  rfl
theorem count_take (fs : List Int) (x : Int) (k : Nat) (hk : k < fs.length) : (fs.take (k + 1)).count x = (fs.take k).count x + if fs[k] = x then 1 else 0 := by
  rw [List.take_succ_eq_append_getElem hk, List.count_append, List.count_singleton]
  simp
def RaPost (x : Option (List Rn)) (w : World) (e : Ending) (w' : World) : Prop := Below w.heap.size w w' ∧ match x with
  | none => e = .returned (.tuple #[.slice none 0 0, .int .i64 1])
  | some M => ∃ v', e = .returned (.tuple #[v', .int .i64 0]) ∧ NOwn 53 w' w.heap.size v' M
set_option maxRecDepth 100000 in
set_option maxHeartbeats 8000000 in
theorem refAfter_any (v fv : Value) (L : List Rn) (fs : List Int) (lv f c : Int) (w : World) (hR : NReads w v L) (hF : Reads w fv fs) (hl0 : -9223372036854775808 ≤ lv) (hl9 : lv ≤ 9223372036854775807) (hf1 : f ≤ 9223372036854775807) (hc1 : c ≤ 9223372036854775807) :
    Calls Try.prog 20 #[v, .agg #[fv, .int .i64 lv], .int .i64 f, .int .i64 c] w (RaPost (aftF L fs lv f c) w) := by
  have HR : Hid (NReads w v L) := hR
  have HF : Hid (Reads w fv fs) := hF
  obtain ⟨a, cap, rfl, hl1, hl2⟩ := hR.form
  obtain ⟨fa, fc, rfl, hfl⟩ := hF.form
  clear hR hF
  unfold maxLen at hl2 hfl
  obtain ⟨X, HX⟩ := hid_ex (aftF L fs lv f c)
  rw [← HX.out]
  obtain ⟨o, Ho⟩ := hid_ex (okB L)
  go_enter Try.func20, Try.ntmps20
  go_wp2_with fail
  obtain ⟨w0, HW0⟩ := hid_ex (w.alloc (.cells #[.slice fa fs.length fc, .int .i64 lv] 32))
  have HB0 : Hid (Below w.heap.size w w0) := by rw [HW0.out]; exact (Below.refl _ _).alloc (Nat.le_refl _) _
  have HX0 : Hid (w0.heap[w.heap.size]? = some (.cells #[.slice fa fs.length fc, .int .i64 lv] 32)) := by rw [HW0.out]; exact heap_alloc_new _ _
  rw [← HW0.out]
  clear HW0
  refine (refRight_any _ L _ (HR.out.below HB0.out)).mono ?_
  rw [← Ho.out]
  rintro e w1 ⟨rfl, hb1⟩
  have HB1 : Hid (Below w.heap.size w w1) := HB0.out.trans (hb1.mono HB0.out.size)
  have HX1 : Hid (w1.heap[w.heap.size]? = some (.cells #[.slice fa fs.length fc, .int .i64 lv] 32)) := (hb1.block _ (Array.getElem?_eq_some_iff.1 HX0.out).1).trans HX0.out
  clear hb1 HX0 HB0
  cases o with
  | false =>
    have HN : Hid (X = none) := by
      unfold Hid
      rw [HX.out, aft_no (by rw [← Ho.out]; simp)]
    go_wp2_with fail
    go_ret2
    rw [HN.out]
    exact ⟨HB1.out, rfl⟩
  | true =>
    have HOK : Hid (okR L) := okB_iff.1 Ho.out.symm
    have h64 : L.length ≤ 64 := HOK.out.1
    by_cases hf : 1 ≤ f
    rotate_left
    · have HN : Hid (X = none) := by
        unfold Hid
        rw [HX.out, aft_no (fun h => hf h.2.1)]
      go_wp2_with fail
      go_ret2
      rw [HN.out]
      exact ⟨HB1.out, rfl⟩
    by_cases hc : 0 ≤ c
    rotate_left
    · have HN : Hid (X = none) := by
        unfold Hid
        rw [HX.out, aft_no (fun h => hc h.2.2.1)]
      go_wp2_with fail
      go_ret2
      rw [HN.out]
      exact ⟨HB1.out, rfl⟩
    have f0 := (cell_row HX1.out 0 (by simp)).1
    have f1 := (cell_row HX1.out 1 (by simp)).1
    simp only [List.getElem_toArray, List.getElem_cons_zero, List.getElem_cons_succ] at f0 f1
    by_cases hlo : 0 ≤ lv
    rotate_left
    · have HN : Hid (X = none) := by
        unfold Hid
        rw [HX.out, aft_no (fun h => hlo h.2.2.2.1)]
      go_wp2_with fail
      go_ret2
      rw [HN.out]
      exact ⟨HB1.out, rfl⟩
    by_cases hlh : lv ≤ 3
    rotate_left
    · have HN : Hid (X = none) := by
        unfold Hid
        rw [HX.out, aft_no (fun h => hlh h.2.2.2.2)]
      go_wp2_with fail
      go_ret2
      rw [HN.out]
      exact ⟨HB1.out, rfl⟩
    have HALL : Hid (okB L = true ∧ 1 ≤ f ∧ 0 ≤ c ∧ (0 ≤ lv ∧ lv ≤ 3)) := ⟨Ho.out.symm, hf, hc, hlo, hlh⟩
    by_cases hfs : fs.length ≤ 64
    rotate_left
    · have HN : Hid (X = none) := by
        unfold Hid
        rw [HX.out]
        cases ho : outF L c fs with
        | none => exact aft_out HALL.out ho
        | some Md =>
          obtain ⟨M, d⟩ := Md
          have := (outF_sub ho).2
          omega
      go_wp2_with fail
      go_ret2
      rw [HN.out]
      exact ⟨HB1.out, rfl⟩
    have HREF : Hid _ := aft_ref (fs := fs) HALL.out
    rw [← HX.out] at HREF
    have hl1w : w.heap.size < w1.heap.size := (Array.getElem?_eq_some_iff.1 HX1.out).1
    go_wp2_with fail
    clear f0 f1
    go_loopw [10, 11, 12, 13] (fun mv nv lv' i wr => ∃ (k : Nat) (M : List Rn) (nm : Nat) (l : Int), k ≤ L.length ∧ i = .int .i64 (k : Int) ∧ nv = .int .i64 (nm : Int) ∧ lv' = .int .i64 l ∧ nm ≤ k * 64 ∧ 0 ≤ l ∧ l ≤ 9223372036854775807 ∧ M.length ≤ k ∧ Hid (M = outs fs (L.take k)) ∧ Hid (NOwn 53 wr w1.heap.size mv M) ∧ Hid (nm = named fs (L.take k)) ∧ Hid (l = (L.take k).foldl (lftS fs) c) ∧ Hid (∀ j (hj : j < L.length), j < k → goodR fs f L[j]) ∧ Hid (Below w1.heap.size w1 wr)) (fun _ _ _ i _ => L.length - (intOf i).toNat)
    case atStart => exact ⟨0, [], 0, c, by omega, rfl, rfl, rfl, by omega, hc, hc1, by simp, rfl, NOwn.nil _ _ _, by simp [named, Hid], rfl, fun j hj h => absurd h (by omega), Below.refl _ _⟩
    case round =>
      obtain ⟨k, M, nm, l, hk, rfl, rfl, rfl, hnm, hl00, hl99, hMk, HM, HO, HNM, HLF, HG, HB⟩ := hrel
      generalize wr = W1 at *
      obtain ⟨ma, mc, rfl, _⟩ := HO.out.reads.form
      have HBw : Hid (Below w.heap.size w W1) := HB1.out.trans (HB.out.mono HB1.out.size)
      by_cases hlt : k < L.length
      · obtain ⟨b, off, rfl, hb⟩ := HR.out.ptr (by omega)
        obtain ⟨r, Hr⟩ := hid_ex L[k]
        have HRIN : Hid (r ∈ L) := by rw [Hr.out]; exact List.getElem_mem hlt
        go_wp2_with fail
        go_loopw [14, 15] (fun qv i wr => ∃ (m q : Nat), m ≤ fs.length ∧ i = .int .i64 (m : Int) ∧ qv = .int .i64 (q : Int) ∧ q ≤ m ∧ Hid (q = (fs.take m).count r.f) ∧ Hid (Below W1.heap.size W1 wr)) (fun _ i _ => fs.length - (intOf i).toNat)
        case atStart => exact ⟨0, 0, by omega, rfl, rfl, by omega, by simp [Hid], Below.refl _ _⟩
        case round =>
          obtain ⟨m, q, hm, rfl, rfl, hqm, HQ, HBm⟩ := hrel
          have HBmw : Hid (Below w.heap.size w wr) := HBw.out.trans (HBm.out.mono HBw.out.size)
          have HB1m : Hid (Below w1.heap.size w1 wr) := HB.out.trans (HBm.out.mono HB.out.size)
          have HXm : Hid (wr.heap[w.heap.size]? = some (.cells #[.slice fa fs.length fc, .int .i64 lv] 32)) := (HB1m.out.block _ hl1w).trans HX1.out
          have g0 := (cell_row HXm.out 0 (by simp)).1
          simp only [List.getElem_toArray, List.getElem_cons_zero] at g0
          obtain ⟨c0, c1, c2, c3⟩ := (HR.out.below HBmw.out).four hlt r Hr.out
          by_cases hmt : m < fs.length
          · obtain ⟨fb, fo, rfl, hfb, hfc⟩ := (HF.out.below HBmw.out).at m hmt
            obtain ⟨y, Hy⟩ := hid_ex fs[m]
            rw [← Hy.out] at hfc
            unfold ic at hfc
            have HCT : Hid ((fs.take (m + 1)).count r.f = q + if y = r.f then 1 else 0) := by
              unfold Hid
              rw [count_take fs r.f m hmt, ← HQ.out, ← Hy.out]
            by_cases hy : y = r.f
            · have hbe : (y == r.f) = true := by simpa using hy
              have HE : Hid (q + 1 = (fs.take (m + 1)).count r.f) := by
                unfold Hid
                rw [HCT.out, if_pos hy]
              clear hy c1 c2 c3
              go_wp2_with fail
              go_quiet (fail)
              have HBn : Hid (Below W1.heap.size W1 (wr.drewN nq)) := below_drewN HBm.out nq
              go_wp2_with fail
              go_roundw
              case rel => exact ⟨m + 1, q + 1, by omega, by go_num, by go_num, by omega, HE.out, HBn.out⟩
              case measure => simp [intOf]; omega
            · have hbe : (y == r.f) = false := by simpa using hy
              have HE : Hid (q = (fs.take (m + 1)).count r.f) := by
                unfold Hid
                rw [HCT.out, if_neg hy]
                rfl
              clear hy c1 c2 c3
              go_wp2_with fail
              go_quiet (fail)
              have HBn : Hid (Below W1.heap.size W1 (wr.drewN nq)) := below_drewN HBm.out nq
              go_wp2_with fail
              go_roundw
              case rel => exact ⟨m + 1, q, by omega, by go_num, rfl, by omega, HE.out, HBn.out⟩
              case measure => simp [intOf]; omega
          · have HQF : Hid (q = fs.count r.f) := by
              unfold Hid
              rw [HQ.out, List.take_of_length_le (by omega)]
            have HNM2 : Hid (nm + q = named fs (L.take (k + 1))) := by
              unfold Hid
              rw [named_take fs L k hlt, ← Hr.out, ← HNM.out, ← HQF.out]
            have HLT : Hid ((L.take (k + 1)).foldl (lftS fs) c = lftS fs l r) := by
              unfold Hid
              rw [lft_take fs L c k hlt, ← Hr.out, ← HLF.out]
            have HOT : Hid (outs fs (L.take (k + 1)) = if has fs r.f then M else M ++ [r]) := by
              unfold Hid
              rw [outs_take fs L k hlt, ← Hr.out, ← HM.out]
            have HGN : Hid (goodR fs f r → ∀ j (hj : j < L.length), j < k + 1 → goodR fs f L[j]) := by
              intro hg j hj hjk
              rcases Nat.lt_or_ge j k with h9 | h9
              · exact HG.out j hj h9
              · obtain rfl : j = k := by omega
                rw [← Hr.out]
                exact hg
            have HO2 : Hid (NOwn 53 wr w1.heap.size (.slice ma M.length mc) M) := HO.out.below HBm.out
            by_cases hq1 : 1 < q
            · have HN : Hid (X = none) := HREF.out.1 (fun h => by have := (h r HRIN.out).1; rw [← HQF.out] at this; omega)
              clear c0 c1 c2 c3
              go_wp2_with fail
              go_ret2
              rw [HN.out]
              exact ⟨HBmw.out, rfl⟩
            · by_cases hq0 : q = 0
              · have HQ0 : Hid (fs.count r.f = 0) := by rw [← HQF.out]; exact hq0
                have hbz : ((q : Int) == 0) = true := by rw [hq0]; rfl
                have hhas : has fs r.f = false := has_eq (by simpa using List.count_eq_zero.1 HQ0.out)
                have HH : Hid (has fs r.f = false) := hhas
                have HQZ : Hid (q = 0) := hq0
                clear hhas hq0
                by_cases hrf : r.f = f
                · have hbe : (r.f == f) = true := by simpa using hrf
                  have HN : Hid (X = none) := HREF.out.1 (fun h => (h r HRIN.out).2 HQ0.out hrf)
                  clear hrf c1 c2 c3
                  go_wp2_with fail
                  go_ret2
                  rw [HN.out]
                  exact ⟨HBmw.out, rfl⟩
                · have hbe : (r.f == f) = false := by simpa using hrf
                  have HGD : Hid (goodR fs f r) := ⟨by rw [HQ0.out]; omega, fun _ => hrf⟩
                  obtain ⟨M1, HM1⟩ := hid_ex (M ++ [r])
                  have HME : Hid (M1 = outs fs (L.take (k + 1))) := by
                    unfold Hid
                    rw [HOT.out, HH.out, HM1.out]
                    rfl
                  have HLE : Hid (l = (L.take (k + 1)).foldl (lftS fs) c) := by
                    unfold Hid
                    rw [HLT.out, lftS, HH.out]
                    rfl
                  have hM1 : M1.length ≤ k + 1 := by rw [HM1.out, List.length_append, List.length_singleton]; omega
                  have hrk : RnOk r := by rw [Hr.out]; exact HR.out.ok _ (List.getElem_mem hlt)
                  obtain ⟨v6, w6, hrun, hown6, hb6⟩ := run_appN (S := 24) (T := 53) Try.underlying24 infoM 24 w1.heap.size (.slice ma M.length mc) M r M1 HM1.out HO2.out hrk (by omega) HB1m.out.size
                  have HO6 : Hid (NOwn 53 w6 w1.heap.size v6 M1) := hown6
                  have HB6 : Hid (Below w1.heap.size w1 w6) := HB1m.out.trans hb6
                  clear hown6 hb6 hrk hrf
                  go_wp2_with (at_builtin; refine wpList_app_run rfl _ _ _ _ rfl rfl _ _ _ rfl rfl hrun ?_)
                  clear hrun c0 c1 c2 c3
                  (try go_wp2_with fail)
                  go_roundw
                  case rel => exact ⟨k + 1, M1, nm + q, l, by omega, by go_num, by go_num, rfl, by have := HQZ.out; omega, hl00, hl99, hM1, HME.out, HO6.out, HNM2.out, HLE.out, HGN.out HGD.out, HB6.out⟩
                  case measure => simp [intOf]; omega
              · have hq : q = 1 := by omega
                have HQ1 : Hid (q = 1) := hq
                have hbz : ((q : Int) == 0) = false := by rw [hq]; rfl
                clear hq
                have hhas : has fs r.f = true := has_iff.2 (List.count_pos_iff.1 (by rw [← HQF.out, HQ1.out]; omega))
                have HH : Hid (has fs r.f = true) := hhas
                have HGD : Hid (goodR fs f r) := ⟨by rw [← HQF.out, HQ1.out]; omega, fun h => by rw [← HQF.out, HQ1.out] at h; cases h⟩
                have HME : Hid (M = outs fs (L.take (k + 1))) := by
                  unfold Hid
                  rw [HOT.out, HH.out, if_pos rfl]
                have hrc0 : 1 ≤ r.c := (HOK.out.2.1 r HRIN.out).2.2.2
                clear hhas hq0
                by_cases hlr : r.c < l
                · have HLE : Hid (l - r.c = (L.take (k + 1)).foldl (lftS fs) c) := by
                    unfold Hid
                    rw [HLT.out, lftS, HH.out, if_pos rfl, if_pos hlr]
                  clear c0 c1 c3
                  go_wp2_with fail
                  go_roundw
                  case rel => exact ⟨k + 1, M, nm + q, l - r.c, by omega, by go_num, by go_num, rfl, by have := HQ1.out; omega, by omega, by omega, by omega, HME.out, HO2.out, HNM2.out, HLE.out, HGN.out HGD.out, HB1m.out⟩
                  case measure => simp [intOf]; omega
                · have HLE : Hid (0 = (L.take (k + 1)).foldl (lftS fs) c) := by
                    unfold Hid
                    rw [HLT.out, lftS, HH.out, if_pos rfl, if_neg hlr]
                  clear c0 c1 c3
                  go_wp2_with fail
                  go_roundw
                  case rel => exact ⟨k + 1, M, nm + q, 0, by omega, by go_num, by go_num, rfl, by have := HQ1.out; omega, by omega, by omega, by omega, HME.out, HO2.out, HNM2.out, HLE.out, HGN.out HGD.out, HB1m.out⟩
                  case measure => simp [intOf]; omega
      · have HGA : Hid (∀ r ∈ L, goodR fs f r) := by
          intro r hr
          obtain ⟨j, hj, rfl⟩ := List.getElem_of_mem hr
          exact HG.out j hj (by omega)
        have HRF : Hid _ := HREF.out.2 HGA.out
        have hMo : M = outs fs L := by rw [HM.out, List.take_of_length_le (by omega)]
        have hno : nm = named fs L := by rw [HNM.out, List.take_of_length_le (by omega)]
        have hlo9 : l = L.foldl (lftS fs) c := by rw [HLF.out, List.take_of_length_le (by omega)]
        rw [← hMo, ← hno, ← hlo9] at HRF
        have hM64 : M.length ≤ 64 := by omega
        have HXm : Hid (W1.heap[w.heap.size]? = some (.cells #[.slice fa fs.length fc, .int .i64 lv] 32)) := (HB.out.block _ hl1w).trans HX1.out
        clear hMo hno hlo9 HREF HM HNM HLF HG HGA
        have g1 := (cell_row HXm.out 1 (by simp)).1
        simp only [List.getElem_toArray, List.getElem_cons_zero, List.getElem_cons_succ] at g1
        by_cases hcp : 0 < c
        · obtain ⟨M1, HM1⟩ := hid_ex (M ++ [⟨f, lv, c, false⟩])
          have hnw : newR c f lv M = M1 := by unfold newR; rw [if_pos hcp, HM1.out]
          rw [hnw] at HRF
          have hrk : RnOk ⟨f, lv, c, false⟩ := ⟨by dsimp only; omega, hf1, hl0, hl9, by dsimp only; omega, hc1⟩
          obtain ⟨v6, w6, hrun, hown6, hb6⟩ := run_appN (S := 24) (T := 53) Try.underlying24 infoM 24 w1.heap.size (.slice ma M.length mc) M ⟨f, lv, c, false⟩ M1 HM1.out HO.out hrk (by omega) HB.out.size
          dsimp only at hrun
          have HO6 : Hid (NOwn 53 w6 w1.heap.size v6 M1) := hown6
          have HB6 : Hid (Below w1.heap.size w1 w6) := HB.out.trans hb6
          have HX6 : Hid (w6.heap[w.heap.size]? = some (.cells #[.slice fa fs.length fc, .int .i64 lv] 32)) := (HB6.out.block _ hl1w).trans HX1.out
          obtain ⟨na, nc, rfl, _⟩ := hown6.reads.form
          clear hown6 hb6 hrk hnw
          have g0 := (cell_row HX6.out 0 (by simp)).1
          simp only [List.getElem_toArray, List.getElem_cons_zero] at g0
          have HB6w : Hid (Below w.heap.size w w6) := HB1.out.trans (HB6.out.mono HB1.out.size)
          by_cases hnl : nm = fs.length
          · subst hnl
            by_cases hlp : l ≤ 0
            · have hdl : decide (0 < l) = false := decide_eq_false (by omega)
              go_wp2_with (at_builtin; refine wpList_app_run rfl _ _ _ _ rfl rfl _ _ _ rfl rfl hrun ?_)
              refine (refRight_any _ M1 _ HO6.out.reads).mono ?_
              obtain ⟨p, Hp⟩ := hid_ex (okB M1)
              rw [← Hp.out] at HRF ⊢
              rintro e w7 ⟨rfl, hb7⟩
              have HB7 : Hid (Below w.heap.size w w7) := HB6w.out.trans (hb7.mono HB6w.out.size)
              have HO7 : Hid (NOwn 53 w7 w.heap.size (.slice na M1.length nc) M1) := (HO6.out.below hb7).mono HB1.out.size
              clear hb7 g0
              cases p with
              | false =>
                have HN : Hid (X = none) := HRF.out.1 (fun h => by have := h.2.2; cases this)
                go_wp2_with fail
                go_ret2
                rw [HN.out]
                exact ⟨HB7.out, rfl⟩
              | true =>
                have HN : Hid (X = some M1) := HRF.out.2 ⟨by first | rfl | trivial, hlp, by first | rfl | trivial⟩
                go_wp2_with fail
                go_ret2
                rw [HN.out]
                exact ⟨HB7.out, _, rfl, HO7.out⟩
            · have HN : Hid (X = none) := HRF.out.1 (fun h => hlp h.2.1)
              have hdl : decide (0 < l) = true := decide_eq_true (by omega)
              go_wp2_with (at_builtin; refine wpList_app_run rfl _ _ _ _ rfl rfl _ _ _ rfl rfl hrun ?_)
              (try go_wp2_with fail)
              go_ret2
              rw [HN.out]
              exact ⟨HB6w.out, rfl⟩
          · have hbn : ((nm : Int) == (fs.length : Int)) = false := by rw [beq_eq_false_iff_ne]; omega
            have HN : Hid (X = none) := HRF.out.1 (fun h => hnl h.1)
            have hbn2 : (nm == fs.length) = false := by rw [beq_eq_false_iff_ne]; exact hnl
            go_wp2_with (at_builtin; refine wpList_app_run rfl _ _ _ _ rfl rfl _ _ _ rfl rfl hrun ?_)
            (try go_wp2_with fail)
            go_ret2
            rw [HN.out]
            exact ⟨HB6w.out, rfl⟩
        · have hnw : newR c f lv M = M := by unfold newR; rw [if_neg hcp]
          rw [hnw] at HRF
          have HO6 : Hid (NOwn 53 W1 w1.heap.size (.slice ma M.length mc) M) := HO.out
          have HB6 : Hid (Below w1.heap.size w1 W1) := HB.out
          have HX6 : Hid (W1.heap[w.heap.size]? = some (.cells #[.slice fa fs.length fc, .int .i64 lv] 32)) := HXm.out
          clear hnw g1
          have g0 := (cell_row HX6.out 0 (by simp)).1
          simp only [List.getElem_toArray, List.getElem_cons_zero] at g0
          have HB6w : Hid (Below w.heap.size w W1) := HB1.out.trans (HB6.out.mono HB1.out.size)
          by_cases hnl : nm = fs.length
          · subst hnl
            by_cases hlp : l ≤ 0
            · have hdl : decide (0 < l) = false := decide_eq_false (by omega)
              go_wp2_with fail
              refine (refRight_any _ M _ HO6.out.reads).mono ?_
              obtain ⟨p, Hp⟩ := hid_ex (okB M)
              rw [← Hp.out] at HRF ⊢
              rintro e w7 ⟨rfl, hb7⟩
              have HB7 : Hid (Below w.heap.size w w7) := HB6w.out.trans (hb7.mono HB6w.out.size)
              have HO7 : Hid (NOwn 53 w7 w.heap.size (.slice ma M.length mc) M) := (HO6.out.below hb7).mono HB1.out.size
              clear hb7 g0
              cases p with
              | false =>
                have HN : Hid (X = none) := HRF.out.1 (fun h => by have := h.2.2; cases this)
                go_wp2_with fail
                go_ret2
                rw [HN.out]
                exact ⟨HB7.out, rfl⟩
              | true =>
                have HN : Hid (X = some M) := HRF.out.2 ⟨by first | rfl | trivial, hlp, by first | rfl | trivial⟩
                go_wp2_with fail
                go_ret2
                rw [HN.out]
                exact ⟨HB7.out, _, rfl, HO7.out⟩
            · have HN : Hid (X = none) := HRF.out.1 (fun h => hlp h.2.1)
              have hdl : decide (0 < l) = true := decide_eq_true (by omega)
              go_wp2_with fail
              (try go_wp2_with fail)
              go_ret2
              rw [HN.out]
              exact ⟨HB6w.out, rfl⟩
          · have hbn : ((nm : Int) == (fs.length : Int)) = false := by rw [beq_eq_false_iff_ne]; omega
            have HN : Hid (X = none) := HRF.out.1 (fun h => hnl h.1)
            have hbn2 : (nm == fs.length) = false := by rw [beq_eq_false_iff_ne]; exact hnl
            go_wp2_with fail
            (try go_wp2_with fail)
            go_ret2
            rw [HN.out]
            exact ⟨HB6w.out, rfl⟩
end Go.Proofs.Yteagbcijpfpjhaa
