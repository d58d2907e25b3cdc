/- The walk of CodeLengths. -/
import Derived.Test.YtpgnifdjjfohcaaC6
import Derived.Test.YtpgnifdjjfohcaaOB
namespace Go.Proofs.Ytpgnifdjjfohcaa
open Go.RowKit Go.Joins

theorem sh_len_eq (n : Nat) : (sh n).length = 1 + (if n / 128 = 0 then 0 else (sh (n / 128)).length) := by
  by_cases h : n < 128
  · rw [sh_lo h, if_pos (by omega)]; rfl
  · rw [sh_hi h, if_neg (by omega)]; simp; omega
theorem sh_mono (a : Nat) : ∀ b, a ≤ b → (sh a).length ≤ (sh b).length := by
  induction a using Nat.strongRecOn with
  | _ a ih =>
    intro b hab
    by_cases h : a < 128
    · rw [sh_lo h]; have := sh_pos b; simp; omega
    · rw [sh_hi h, sh_hi (show ¬ b < 128 by omega)]
      have := ih (a / 128) (by omega) (b / 128) (by omega)
      simp; omega
/-- All bytes go on: none is the last. -/
theorem rsF_cut (l : List UInt8) : ∀ i v, (∀ x ∈ l, 128 ≤ x.toNat) → i + l.length ≤ 9 → rsF l i v = (0, 0, 10) := by
  induction l with
  | nil => intro i v _ _; rfl
  | cons x l ih =>
    intro i v h hi
    have hx := h x (List.mem_cons_self ..)
    simp at hi
    rw [rsF_cons, if_neg (by omega), if_pos hx]
    exact ih _ _ (fun y hy => h y (List.mem_cons_of_mem _ hy)) (by omega)
theorem sh_front (n : Nat) : ∀ c, c < (sh n).length → ∀ x ∈ (sh n).take c, 128 ≤ x.toNat := by
  induction n using Nat.strongRecOn with
  | _ n ih =>
    intro c hc x hx
    by_cases h : n < 128
    · rw [sh_lo h] at hc hx
      have : c = 0 := by simp at hc; omega
      subst this; simp at hx
    · rw [sh_hi h] at hc hx
      cases c with
      | zero => simp at hx
      | succ c =>
        simp at hc
        rw [List.take_succ_cons] at hx
        rcases List.mem_cons.1 hx with rfl | hx
        · simp [UInt8.toNat_ofNat']; omega
        · exact ih (n / 128) (by omega) c hc x hx

set_option maxRecDepth 100000 in
set_option maxHeartbeats 1000000 in
theorem lengths_walk (a b : Nat) (ha : a < 18446744073709551616) (hb : b < 18446744073709551616) (cut : Int) (w : World) :
    Calls Try.prog 8 #[.int .u64 (a : Int), .int .u64 (b : Int), .int .i64 cut] w fun e w' => e = .returned (.bool true) ∧ Below w.heap.size w w' := by
  go_enter Try.func8, Try.ntmps8
  go_wp2_with fail
  refine (short_any a ha _).mono ?_
  rintro e w1 ⟨x, rfl, hown1, hb1⟩
  go_wp2_with fail
  refine (short_any b hb _).mono ?_
  rintro e w2 ⟨y, rfl, hown2, hb2⟩
  obtain ⟨ya, yc, rfl, _⟩ := (reads_own hown2).form
  have hr1 := (reads_own hown1).below hb2
  have HB2 : Hid (Below w.heap.size w w2) := hb1.trans (hb2.mono hb1.size)
  clear hown1 hown2 hb1 hb2
  rcases hr1 with ⟨h00, _⟩ | ⟨xb, xo, xc, rfl, g1, g2, g3, g4, g5⟩
  · have := sh_pos a; rw [h00] at this; simp at this
  have hl10 := sh_len10 ha
  have HM1 : Hid ((sh a).length = 1 + (if a / 128 = 0 then 0 else (sh (a / 128)).length)) := sh_len_eq a
  have HMO : Hid (a ≤ b → (sh a).length ≤ (sh b).length) := sh_mono a b
  have HFR : Hid (∀ c, c < (sh a).length → rsF ((sh a).take c) 0 0 = (0, 0, 10)) := fun c hc => rsF_cut _ 0 0 (sh_front a c hc) (by simp; omega)
  have HRD : Hid (∀ c, c ≤ (sh a).length → Reads w2 (.slice (some ⟨xb, xo, none⟩) c xc) ((sh a).take c)) := fun c hc => reads_take c hc g2 g3 g4 g5
  clear g5
  have HLB : Hid ((sh b).length = (sh b).length) := rfl
  generalize hla : (sh a).length = la at *
  generalize hlb : (sh b).length = lb at *
  go_wp2_with fail
  go_loopw [9, 10] (fun n v wr => ∃ m c : Nat, wr = w2 ∧ m < 18446744073709551616 ∧ v = .int .u64 (m : Int) ∧ n = .int .i64 (c : Int) ∧ c ≤ 10 ∧ c + (if m = 0 then 0 else (sh m).length) = la) (fun _ v _ => (intOf v).toNat)
  case atStart => exact ⟨a / 128, 1, rfl, by omega, by go_num, rfl, by omega, HM1.out.symm⟩
  case round =>
    obtain ⟨m, c, hwr, hm, rfl, rfl, hc, hrel⟩ := hrel
    subst wr
    rcases Nat.eq_zero_or_pos m with h0 | h0
    · rw [if_pos h0] at hrel
      have hcl : c = la := by omega
      subst hcl
      have i0 : ¬ (0 : Int) < (m : Int) := by omega
      clear HM1 h0 hrel
      have HM : Hid (m = m) := rfl
      by_cases hab : a ≤ b
      · have i1 : (a : Int) ≤ (b : Int) := by omega
        have i2 : ¬ (lb : Int) < (c : Int) := by have := HMO.out hab; omega
        clear HMO hab
        by_cases hc0 : cut < 0
        · go_wp2_with fail
          refine (alive_any _).mono ?_
          rintro e w3 ⟨rfl, hb3⟩
          have HB3 : Hid (Below w.heap.size w w3) := HB2.out.trans (hb3.mono HB2.out.size)
          clear hb3
          go_wp2_with fail
          go_ret
          exact ⟨rfl, HB3.out⟩
        · by_cases hc1 : (c : Int) ≤ cut
          · go_wp2_with fail
            refine (alive_any _).mono ?_
            rintro e w3 ⟨rfl, hb3⟩
            have HB3 : Hid (Below w.heap.size w w3) := HB2.out.trans (hb3.mono HB2.out.size)
            clear hb3
            go_wp2_with fail
            go_ret
            exact ⟨rfl, HB3.out⟩
          · obtain ⟨k, rfl⟩ : ∃ k : Nat, cut = k := ⟨cut.toNat, by omega⟩
            have hkc : k < c := by omega
            have i5 : (k : Int) ≤ (xc : Int) := by omega
            have i6 : (0 : Int) ≤ (k : Int) := by omega
            have HFK : Hid _ := HFR.out k hkc
            have HRK : Hid _ := HRD.out k (by omega)
            clear HFR HRD
            go_wp2_with fail
            refine (readShort_any _ ((sh a).take k) _ HRK.out).mono ?_
            rw [HFK.out]
            rintro e w3 ⟨rfl, hb3⟩
            have HB3 : Hid (Below w.heap.size w w3) := HB2.out.trans (hb3.mono HB2.out.size)
            clear hb3
            go_wp2_with fail
            refine (alive_any _).mono ?_
            rintro e w4 ⟨rfl, hb4⟩
            have HB4 : Hid (Below w.heap.size w w4) := HB3.out.trans (hb4.mono HB3.out.size)
            clear hb4
            go_wp2_with fail
            go_ret
            exact ⟨rfl, HB4.out⟩
      · have i1 : ¬ (a : Int) ≤ (b : Int) := by omega
        clear HMO hab
        by_cases hc0 : cut < 0
        · go_wp2_with fail
          refine (alive_any _).mono ?_
          rintro e w3 ⟨rfl, hb3⟩
          have HB3 : Hid (Below w.heap.size w w3) := HB2.out.trans (hb3.mono HB2.out.size)
          clear hb3
          go_wp2_with fail
          go_ret
          exact ⟨rfl, HB3.out⟩
        · by_cases hc1 : (c : Int) ≤ cut
          · go_wp2_with fail
            refine (alive_any _).mono ?_
            rintro e w3 ⟨rfl, hb3⟩
            have HB3 : Hid (Below w.heap.size w w3) := HB2.out.trans (hb3.mono HB2.out.size)
            clear hb3
            go_wp2_with fail
            go_ret
            exact ⟨rfl, HB3.out⟩
          · obtain ⟨k, rfl⟩ : ∃ k : Nat, cut = k := ⟨cut.toNat, by omega⟩
            have hkc : k < c := by omega
            have i5 : (k : Int) ≤ (xc : Int) := by omega
            have i6 : (0 : Int) ≤ (k : Int) := by omega
            have HFK : Hid _ := HFR.out k hkc
            have HRK : Hid _ := HRD.out k (by omega)
            clear HFR HRD
            go_wp2_with fail
            refine (readShort_any _ ((sh a).take k) _ HRK.out).mono ?_
            rw [HFK.out]
            rintro e w3 ⟨rfl, hb3⟩
            have HB3 : Hid (Below w.heap.size w w3) := HB2.out.trans (hb3.mono HB2.out.size)
            clear hb3
            go_wp2_with fail
            refine (alive_any _).mono ?_
            rintro e w4 ⟨rfl, hb4⟩
            have HB4 : Hid (Below w.heap.size w w4) := HB3.out.trans (hb4.mono HB3.out.size)
            clear hb4
            go_wp2_with fail
            go_ret
            exact ⟨rfl, HB4.out⟩
    · rw [if_neg (by omega)] at hrel
      have HME : Hid (c + 1 + (if m / 128 = 0 then 0 else (sh (m / 128)).length) = la) := by unfold Hid; rw [← hrel, sh_len_eq m]; omega
      have hpm : 0 < (sh m).length := sh_pos m
      have hc9 : c ≤ 9 := by omega
      clear hrel hpm
      have i0 : (0 : Int) < (m : Int) := by omega
      clear HMO HFR HRD HM1
      go_wp2_with fail
      go_roundw
      case rel => exact ⟨m / 128, c + 1, trivial, by omega, by go_num, by go_num, by omega, HME.out⟩
      case measure => simp [intOf]; omega
theorem lengthsWalk (a b cut : Int) (w : World) (ha : (Lit.int .u64 a).wf = true) (hb : (Lit.int .u64 b).wf = true) (_ : (Lit.int .i64 cut).wf = true) :
    Calls Try.prog 8 #[.int .u64 a, .int .u64 b, .int .i64 cut] w fun e w' => e = .returned (.bool true) ∧ Below w.heap.size w w' := by
  have h1 := bounds_u64 ha
  have h2 := bounds_u64 hb
  obtain ⟨x, rfl⟩ := Int.eq_ofNat_of_zero_le h1.1
  obtain ⟨y, rfl⟩ := Int.eq_ofNat_of_zero_le h2.1
  exact lengths_walk x y (by omega) (by omega) cut w
end Go.Proofs.Ytpgnifdjjfohcaa
