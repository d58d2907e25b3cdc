/- The reference's Full. -/
import Derived.Test.YteagbcijpfpjhaaPO1
namespace Go.Proofs.Yteagbcijpfpjhaa
open Go.RowKit Go.Shelf

set_option maxRecDepth 100000 in
set_option maxHeartbeats 4000000 in
theorem refFull_any (v : Value) (L : List Rn) (lv : Int) (w : World) (hR : NReads w v L) : Calls Try.prog 16 #[v, .int .i64 lv] w fun e w' => e = .returned (.bool (FulB L lv)) ∧ Below w.heap.size w w' := by
  have HR : Hid (NReads w v L) := hR
  obtain ⟨a, cap, rfl, hl1, hl2⟩ := hR.form
  clear hR
  obtain ⟨q, Hq⟩ := hid_ex (FulB L lv)
  obtain ⟨o, Ho⟩ := hid_ex (okB L)
  rw [← Hq.out]
  go_enter Try.func16, Try.ntmps16
  go_wp2_with fail
  refine (refRight_any _ L _ HR.out).mono ?_
  rw [← Ho.out]
  rintro e w1 ⟨rfl, hb1⟩
  have HB1 : Hid (Below w.heap.size w w1) := hb1
  clear hb1
  cases o with
  | false =>
    have HE : Hid (q = false) := by
      unfold Hid
      rw [Hq.out, FulB, ← Ho.out]
      rfl
    go_wp2_with fail
    go_ret
    exact ⟨by rw [HE.out]; rfl, HB1.out⟩
  | true =>
    have HOK : Hid (okR L) := okB_iff.1 Ho.out.symm
    have h64 : L.length ≤ 64 := HOK.out.1
    by_cases hn : 0 ≤ lv
    rotate_left
    · have HE : Hid (q = false) := by
        unfold Hid
        rw [Hq.out, FulB, decide_eq_false (fun h => hn h.1)]
        simp
      go_wp2_with fail
      go_ret
      exact ⟨by rw [HE.out]; rfl, HB1.out⟩
    go_wp2_with fail
    refine (at_any _ L lv _ (HR.out.below HB1.out) (by omega)).mono ?_
    rintro e w2 ⟨v2, rfl, hO2, hb2⟩
    have HB2 : Hid (Below w.heap.size w w2) := HB1.out.trans (hb2.mono HB1.out.size)
    have HO2 : Hid (NOwn 53 w2 w1.heap.size v2 (atF lv L)) := hO2
    obtain ⟨xa, xc, rfl, _⟩ := hO2.reads.form
    clear hb2 hO2
    have hA64 : (atF lv L).length ≤ 64 := Nat.le_trans (List.length_filter_le _ _) h64
    by_cases h0 : lv = 0
    · subst h0
      have HE : Hid (q = decide (2 ≤ ((atF 0 L).length : Int))) := by
        unfold Hid
        rw [Hq.out, FulB, ← Ho.out, decide_eq_true (by decide : (0 : Int) ≤ 0 ∧ (0 : Int) ≤ 3)]
        simp only [Bool.true_and, fulF, if_true]
        rw [← at0_len, decide_eq_decide]
        omega
      clear HO2
      generalize (atF 0 L).length = n at *
      go_wp2_with fail
      go_ret
      refine ⟨?_, HB2.out⟩
      rw [HE.out]
      simp
      try omega
    · have hb0 : (lv == 0) = false := by simpa using h0
      have hlt : ∀ m, fulF L lv = L.any (overP lv m) → (lv = 1 ∨ lv = 2) → q = (atF lv L).any (fun r => decide (m < r.c)) := by
        intro m hf h12
        rw [Hq.out, FulB, ← Ho.out, decide_eq_true (by omega), hf, any_at]
        rfl
      by_cases h1 : lv = 1
      · have HE : Hid (q = (atF lv L).any (fun r => decide (64 < r.c))) := hlt 64 (by subst h1; simp [fulF]) (.inl h1)
        have hb1 : (lv == 1) = true := by simpa using h1
        have hA1 := at_one HOK.out (lv := lv) (by omega)
        clear hlt h0 h1
        cases hA : atF lv L with
        | nil =>
          rw [hA] at HE
          go_wp2_with fail
          go_ret
          exact ⟨by rw [HE.out]; rfl, HB2.out⟩
        | cons r l =>
          rw [hA] at hA1 HE HO2
          have hl : l = [] := List.length_eq_zero_iff.1 (by simp at hA1; exact List.length_eq_zero_iff.2 hA1)
          subst hl
          obtain ⟨xb, xo, rfl, hxb⟩ := HO2.out.reads.ptr (by simp)
          obtain ⟨c0, c1, c2, c3⟩ := HO2.out.reads.four (j := 0) (by simp) r rfl
          simp only [Nat.zero_mul, Nat.add_zero] at c0 c1 c2 c3
          clear hA1 hA c0 c1 c3
          go_wp2_with fail
          go_ret
          refine ⟨?_, HB2.out⟩
          rw [HE.out]
          simp
      · have hb1 : (lv == 1) = false := by simpa using h1
        by_cases h2 : lv = 2
        · have HE : Hid (q = (atF lv L).any (fun r => decide (256 < r.c))) := hlt 256 (by subst h2; simp [fulF]) (.inr h2)
          have hb2 : (lv == 2) = true := by simpa using h2
          have hA1 := at_one HOK.out (lv := lv) (by omega)
          clear hlt h0 h1 h2
          cases hA : atF lv L with
          | nil =>
            rw [hA] at HE
            go_wp2_with fail
            go_ret
            exact ⟨by rw [HE.out]; rfl, HB2.out⟩
          | cons r l =>
            rw [hA] at hA1 HE HO2
            have hl : l = [] := List.length_eq_zero_iff.1 (by simp at hA1; exact List.length_eq_zero_iff.2 hA1)
            subst hl
            obtain ⟨xb, xo, rfl, hxb⟩ := HO2.out.reads.ptr (by simp)
            obtain ⟨c0, c1, c2, c3⟩ := HO2.out.reads.four (j := 0) (by simp) r rfl
            simp only [Nat.zero_mul, Nat.add_zero] at c0 c1 c2 c3
            clear hA1 hA c0 c1 c3
            go_wp2_with fail
            go_ret
            refine ⟨?_, HB2.out⟩
            rw [HE.out]
            simp
        · have hb2 : (lv == 2) = false := by simpa using h2
          have HE : Hid (q = false) := by
            unfold Hid
            rw [Hq.out, FulB, fulF, if_neg h0, if_neg h1, if_neg h2]
            simp
          clear hlt h0 h1 h2
          go_wp2_with fail
          go_ret
          exact ⟨by rw [HE.out]; rfl, HB2.out⟩
end Go.Proofs.Yteagbcijpfpjhaa
