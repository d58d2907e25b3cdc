/- The contract of After. -/
import Derived.Test.YteagbcijpfpjhaaPK15
namespace Go.Proofs.Yteagbcijpfpjhaa
open Go.RowKit Go.Shelf

theorem aft_no {L : List Rn} {fs : List Int} {lv f c : Int} (h : ¬ (okB L = true ∧ 1 ≤ f ∧ 0 ≤ c ∧ (0 ≤ lv ∧ lv ≤ 3))) : aftF L fs lv f c = none := by unfold aftF; rw [if_neg h]
theorem aft_out {L : List Rn} {fs : List Int} {lv f c : Int} (h : okB L = true ∧ 1 ≤ f ∧ 0 ≤ c ∧ (0 ≤ lv ∧ lv ≤ 3)) (ho : outF L c fs = none) : aftF L fs lv f c = none := by unfold aftF; rw [if_pos h, ho]
theorem aft_some {L : List Rn} {fs : List Int} {lv f c : Int} (h : okB L = true ∧ 1 ≤ f ∧ 0 ≤ c ∧ (0 ≤ lv ∧ lv ≤ 3)) {M : List Rn} {d : Int} (ho : outF L c fs = some (M, d)) : aftF L fs lv f c = if d = 0 ∧ (∀ r ∈ M, r.f ≠ f) ∧ okB (if 0 < c then M ++ [⟨f, lv, c, false⟩] else M) = true then some (if 0 < c then M ++ [⟨f, lv, c, false⟩] else M) else none := by unfold aftF; rw [if_pos h, ho]
theorem outF_sub {fs : List Int} : ∀ {L : List Rn} {c : Int} {M : List Rn} {d : Int}, outF L c fs = some (M, d) → M.Sublist L ∧ M.length + fs.length = L.length := by
  induction fs with
  | nil => intro L c M d h; simp [outF] at h; obtain ⟨rfl, _⟩ := h; exact ⟨List.Sublist.refl _, by simp⟩
  | cons f fs ih =>
    intro L c M d h
    rw [outF] at h
    split at h
    · cases h
    · rename_i k hk
      obtain ⟨h1, h2⟩ := ih h
      have hkl := (List.findIdx?_eq_some_iff_getElem.1 hk).1
      refine ⟨h1.trans (List.eraseIdx_sublist _ _), ?_⟩
      rw [List.length_eraseIdx_of_lt hkl] at h2
      simp
      omega
set_option maxRecDepth 100000 in
set_option maxHeartbeats 4000000 in
theorem after_any (v fv : Value) (L : List Rn) (fs : List Int) (lv f c : Int) (w : World) (hR : NReads w v L) (hF : Reads w fv fs) (hl0 : -9223372036854775808 ≤ lv) (hl9 : lv ≤ 9223372036854775807) (hf1 : f ≤ 9223372036854775807) (hc1 : c ≤ 9223372036854775807) :
    Calls Try.prog 19 #[v, .agg #[fv, .int .i64 lv], .int .i64 f, .int .i64 c] w (AfPost (aftF L fs lv f c) w) := by
  have HR : Hid (NReads w v L) := hR
  have HF : Hid (Reads w fv fs) := hF
  obtain ⟨a, cap, rfl, hl1, hl2⟩ := hR.form
  obtain ⟨fa, fc, rfl, hfl⟩ := hF.form
  clear hR hF
  unfold maxLen at hl2 hfl
  obtain ⟨X, HX⟩ := hid_ex (aftF L fs lv f c)
  rw [← HX.out]
  obtain ⟨o, Ho⟩ := hid_ex (okB L)
  go_enter Try.func19, Try.ntmps19
  go_wp2_with fail
  obtain ⟨w0, HW0⟩ := hid_ex (w.alloc (.cells #[.slice fa fs.length fc, .int .i64 lv] 28))
  have HB0 : Hid (Below w.heap.size w w0) := by rw [HW0.out]; exact (Below.refl _ _).alloc (Nat.le_refl _) _
  have HX0 : Hid (w0.heap[w.heap.size]? = some (.cells #[.slice fa fs.length fc, .int .i64 lv] 28)) := by rw [HW0.out]; exact heap_alloc_new _ _
  rw [← HW0.out]
  clear HW0
  refine (right_any _ L _ (HR.out.below HB0.out)).mono ?_
  rw [← Ho.out]
  rintro e w1 ⟨rfl, hb1⟩
  have HB1 : Hid (Below w.heap.size w w1) := HB0.out.trans (hb1.mono HB0.out.size)
  have HX1 : Hid (w1.heap[w.heap.size]? = some (.cells #[.slice fa fs.length fc, .int .i64 lv] 28)) := (hb1.block _ (Array.getElem?_eq_some_iff.1 HX0.out).1).trans HX0.out
  clear hb1 HX0 HB0
  cases o with
  | false =>
    have HN : Hid (X = none) := by
      unfold Hid
      rw [HX.out, aft_no (by rw [← Ho.out]; simp)]
    go_wp2_with fail
    go_ret2
    rw [HN.out]
    exact ⟨HB1.out, rfl⟩
  | true =>
    have HOK : Hid (okR L) := okB_iff.1 Ho.out.symm
    have h64 : L.length ≤ 64 := HOK.out.1
    by_cases hf : 1 ≤ f
    rotate_left
    · have HN : Hid (X = none) := by
        unfold Hid
        rw [HX.out, aft_no (fun h => hf h.2.1)]
      go_wp2_with fail
      go_ret2
      rw [HN.out]
      exact ⟨HB1.out, rfl⟩
    by_cases hc : 0 ≤ c
    rotate_left
    · have HN : Hid (X = none) := by
        unfold Hid
        rw [HX.out, aft_no (fun h => hc h.2.2.1)]
      go_wp2_with fail
      go_ret2
      rw [HN.out]
      exact ⟨HB1.out, rfl⟩
    have f0 := (cell_row HX1.out 0 (by simp)).1
    have f1 := (cell_row HX1.out 1 (by simp)).1
    simp only [List.getElem_toArray, List.getElem_cons_zero, List.getElem_cons_succ] at f0 f1
    by_cases hl : 0 ≤ lv ∧ lv ≤ 3
    rotate_left
    · have HN : Hid (X = none) := by
        unfold Hid
        rw [HX.out, aft_no (fun h => hl h.2.2.2)]
      go_wp2_with fail
      refine (isLevel_any _ _).mono ?_
      rw [decide_eq_false hl]
      rintro e w2 ⟨rfl, hw2⟩
      subst w2
      clear hl
      go_wp2_with fail
      go_ret2
      rw [HN.out]
      exact ⟨HB1.out, rfl⟩
    have HALL : Hid (okB L = true ∧ 1 ≤ f ∧ 0 ≤ c ∧ (0 ≤ lv ∧ lv ≤ 3)) := ⟨Ho.out.symm, hf, hc, hl⟩
    go_wp2_with fail
    refine (isLevel_any _ _).mono ?_
    rw [decide_eq_true hl]
    rintro e w2 ⟨rfl, hw2⟩
    subst w2
    clear hl
    go_wp2_with fail
    refine (without_any _ _ L fs c _ (HR.out.below HB1.out) (HF.out.below HB1.out) h64 (fun r hr => (HOK.out.2.1 r hr).2.2.2) hc hc1).mono ?_
    obtain ⟨O, HO⟩ := hid_ex (outF L c fs)
    rw [← HO.out]
    cases O with
    | none =>
      rintro e w3 ⟨hb3, rfl⟩
      have HB3 : Hid (Below w.heap.size w w3) := HB1.out.trans (hb3.mono HB1.out.size)
      have HN : Hid (X = none) := by
        unfold Hid
        rw [HX.out, aft_out HALL.out HO.out.symm]
      clear hb3
      go_wp2_with fail
      go_ret2
      rw [HN.out]
      exact ⟨HB3.out, rfl⟩
    | some Md =>
      obtain ⟨M, d⟩ := Md
      rintro e w3 ⟨hb3, v3, rfl, hO3⟩
      have HB3 : Hid (Below w.heap.size w w3) := HB1.out.trans (hb3.mono HB1.out.size)
      have HO3 : Hid (NOwn 48 w3 w.heap.size v3 M) := hO3.mono HB1.out.size
      have HX3 : Hid (w3.heap[w.heap.size]? = some (.cells #[.slice fa fs.length fc, .int .i64 lv] 28)) := (hb3.block _ (Array.getElem?_eq_some_iff.1 HX1.out).1).trans HX1.out
      have HE : Hid _ := HX.out.trans (aft_some HALL.out HO.out.symm)
      have hM64 : M.length ≤ 64 := Nat.le_trans (outF_sub HO.out.symm).1.length_le h64
      obtain ⟨ma, mc, rfl, hml1, hml2⟩ := hO3.reads.form
      unfold maxLen at hml2
      clear hb3 hO3 f0 f1
      by_cases hd : d = 0
      rotate_left
      · rw [decide_eq_false hd]
        have HN : Hid (X = none) := by
          unfold Hid
          rw [HE.out, if_neg (fun h => hd h.1)]
        clear hd
        go_wp2_with fail
        go_ret2
        rw [HN.out]
        exact ⟨HB3.out, rfl⟩
      rw [decide_eq_true hd]
      have HD : Hid (d = 0) := hd
      clear hd
      go_wp2_with fail
      refine (place_any _ M f _ HO3.out.reads).mono ?_
      rintro e w4 ⟨hb4, ⟨j, hj, rfl, hj1, hj2⟩ | ⟨rfl, hn⟩⟩
      · have HB4 : Hid (Below w.heap.size w w4) := HB3.out.trans (hb4.mono HB3.out.size)
        have HN : Hid (X = none) := by
          unfold Hid
          rw [HE.out, if_neg (fun h => h.2.1 _ (List.getElem_mem hj) hj1)]
        clear hb4 hj1 hj2
        go_wp2_with fail
        go_ret2
        rw [HN.out]
        exact ⟨HB4.out, rfl⟩
      · have HB4 : Hid (Below w.heap.size w w4) := HB3.out.trans (hb4.mono HB3.out.size)
        have HO4 : Hid (NOwn 48 w4 w.heap.size (.slice ma M.length mc) M) := HO3.out.below hb4
        have HX4 : Hid (w4.heap[w.heap.size]? = some (.cells #[.slice fa fs.length fc, .int .i64 lv] 28)) := (hb4.block _ (Array.getElem?_eq_some_iff.1 HX3.out).1).trans HX3.out
        have HNF : Hid (∀ r ∈ M, r.f ≠ f) := hn
        clear hb4 hn
        by_cases hc9 : 0 < c
        · obtain ⟨M1, HM1⟩ := hid_ex (M ++ [⟨f, lv, c, false⟩])
          have HE2 : Hid (X = if okB M1 = true then some M1 else none) := by
            unfold Hid
            rw [HE.out, if_pos hc9, ← HM1.out]
            by_cases ho : okB M1 = true
            · rw [if_pos ho, if_pos ⟨HD.out, HNF.out, ho⟩]
            · rw [if_neg ho, if_neg (fun h => ho h.2.2)]
          have hrk : RnOk ⟨f, lv, c, false⟩ := ⟨by dsimp only; omega, hf1, hl0, hl9, by dsimp only; omega, hc1⟩
          obtain ⟨v6, w6, hrun, hown6, hb6⟩ := run_appN (S := 22) (T := 48) Try.underlying22 infoN 22 w.heap.size _ M ⟨f, lv, c, false⟩ M1 HM1.out HO4.out hrk (by omega) HB4.out.size
          dsimp only at hrun
          have HO6 : Hid (NOwn 48 w6 w.heap.size v6 M1) := hown6
          have HB6 : Hid (Below w.heap.size w w6) := HB4.out.trans hb6
          have f1 := (cell_row HX4.out 1 (by simp)).1
          simp only [List.getElem_toArray, List.getElem_cons_zero, List.getElem_cons_succ] at f1
          clear hown6 hb6 hrk
          go_wp2_with (at_builtin; refine wpList_app_run rfl _ _ _ _ rfl rfl _ _ _ rfl rfl hrun ?_)
          clear hrun f1
          obtain ⟨na, nc, rfl, hnl1, hnl2⟩ := HO6.out.reads.form
          go_wp2_with fail
          refine (right_any _ M1 _ HO6.out.reads).mono ?_
          obtain ⟨p, Hp⟩ := hid_ex (okB M1)
          rw [← Hp.out] at HE2 ⊢
          rintro e w7 ⟨rfl, hb7⟩
          have HB7 : Hid (Below w.heap.size w w7) := HB6.out.trans (hb7.mono HB6.out.size)
          have HO7 : Hid (NOwn 48 w7 w.heap.size (.slice na M1.length nc) M1) := HO6.out.below hb7
          clear hb7
          cases p with
          | false =>
            have HN : Hid (X = none) := HE2.out.trans (by rw [if_neg (by simp)])
            go_wp2_with fail
            go_ret2
            rw [HN.out]
            exact ⟨HB7.out, rfl⟩
          | true =>
            have HN : Hid (X = some M1) := HE2.out.trans (by rw [if_pos rfl])
            go_wp2_with fail
            go_ret2
            rw [HN.out]
            exact ⟨HB7.out, _, rfl, HO7.out⟩
        · have HE2 : Hid (X = if okB M = true then some M else none) := by
            unfold Hid
            rw [HE.out, if_neg hc9]
            by_cases ho : okB M = true
            · rw [if_pos ho, if_pos ⟨HD.out, HNF.out, ho⟩]
            · rw [if_neg ho, if_neg (fun h => ho h.2.2)]
          go_wp2_with fail
          refine (right_any _ M _ HO4.out.reads).mono ?_
          obtain ⟨p, Hp⟩ := hid_ex (okB M)
          rw [← Hp.out] at HE2 ⊢
          rintro e w7 ⟨rfl, hb7⟩
          have HB7 : Hid (Below w.heap.size w w7) := HB4.out.trans (hb7.mono HB4.out.size)
          have HO7 : Hid (NOwn 48 w7 w.heap.size (.slice ma M.length mc) M) := HO4.out.below hb7
          clear hb7
          cases p with
          | false =>
            have HN : Hid (X = none) := HE2.out.trans (by rw [if_neg (by simp)])
            go_wp2_with fail
            go_ret2
            rw [HN.out]
            exact ⟨HB7.out, rfl⟩
          | true =>
            have HN : Hid (X = some M) := HE2.out.trans (by rw [if_pos rfl])
            go_wp2_with fail
            go_ret2
            rw [HN.out]
            exact ⟨HB7.out, _, rfl, HO7.out⟩
end Go.Proofs.Yteagbcijpfpjhaa
