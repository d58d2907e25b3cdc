/- Plain words on what is read of bytes: no program in sight. -/
import Derived.Test.YtbcdmammedabmaaC6
import Derived.Test.YtbcdmammedabmaaOB
namespace Go.Proofs.Ytbcdmammedabmaa
open Go.RowKit

theorem u8_of {x : UInt8} {n : Nat} (h : x.toNat = n) : UInt8.ofNat n = x := by rw [← h]; exact UInt8.ofNat_toNat ..
/-- What ReadShort reads, written again, stands there. -/
theorem rsF_ok (l : List UInt8) : ∀ i v V N, rsF l i v = (V, N, 0) → i ≤ 9 → v < 128 ^ i →
    ∃ u c, N = i + c ∧ 1 ≤ c ∧ c ≤ l.length ∧ V = v + 128 ^ i * u ∧ sh u = l.take c ∧ (0 < i → 0 < u) ∧ V < 18446744073709551616 := by
  induction l with
  | nil => intro i v V N h _ _; simp [rsF] at h
  | cons x l ih =>
    intro i v V N h hi hv
    rw [rsF_cons] at h
    have hx : x.toNat < 256 := UInt8.toNat_lt x
    by_cases h9 : i = 9 ∧ 1 < x.toNat
    · rw [if_pos h9] at h; simp at h
    · rw [if_neg h9] at h
      by_cases h128 : 128 ≤ x.toNat
      · rw [if_pos h128] at h
        have hi8 : i ≤ 8 := by omega
        have hp : 128 ^ (i + 1) = 128 * 128 ^ i := by rw [Nat.pow_succ, Nat.mul_comm]
        obtain ⟨u, c, h1, h2, h3, h4, h5, h6, h7⟩ := ih (i + 1) _ V N h (by omega) (by
          have h2 : x.toNat % 128 * 128 ^ i ≤ 127 * 128 ^ i := Nat.mul_le_mul_right _ (by omega)
          generalize 128 ^ i = q at *
          omega)
        have hu := h6 (by omega)
        refine ⟨x.toNat % 128 + 128 * u, c + 1, by omega, by omega, by simp; omega, ?_, ?_, fun _ => by omega, h7⟩
        · rw [h4, hp, Nat.mul_add, Nat.mul_comm (x.toNat % 128)]
          have : 128 ^ i * (128 * u) = 128 * 128 ^ i * u := by rw [← Nat.mul_assoc, Nat.mul_comm (128 ^ i) 128]
          omega
        · rw [sh_hi (by omega), List.take_succ_cons]
          have e1 : (x.toNat % 128 + 128 * u) % 128 + 128 = x.toNat := by omega
          have e2 : (x.toNat % 128 + 128 * u) / 128 = u := by omega
          rw [e1, e2, h5, u8_of rfl]
      · rw [if_neg h128] at h
        by_cases h00 : x.toNat = 0 ∧ 0 < i
        · rw [if_pos h00] at h; simp at h
        · rw [if_neg h00] at h
          simp only [Prod.mk.injEq] at h
          obtain ⟨rfl, rfl, _⟩ := h
          have em : x.toNat % 128 = x.toNat := by omega
          have hf := short_fit x.toNat i hi (by omega) (fun h => by omega)
          have hp := pow128 i hi
          rw [em]
          refine ⟨x.toNat, 1, rfl, by omega, by simp, by rw [Nat.mul_comm], ?_, fun h => by omega, by omega⟩
          rw [sh_lo (by omega), u8_of rfl]; rfl
theorem rsF_bad (l : List UInt8) : ∀ i v, (rsF l i v).2.2 ≠ 0 → (rsF l i v).1 = 0 ∧ (rsF l i v).2.1 = 0 := by
  induction l with
  | nil => intro i v _; exact ⟨rfl, rfl⟩
  | cons x l ih =>
    intro i v h
    rw [rsF_cons] at h ⊢
    split
    · exact ⟨rfl, rfl⟩
    · rename_i h1
      rw [if_neg h1] at h
      split
      · rename_i h2
        rw [if_pos h2] at h
        exact ih _ _ h
      · rename_i h2
        rw [if_neg h2] at h
        split
        · exact ⟨rfl, rfl⟩
        · rename_i h3
          rw [if_neg h3] at h
          exact absurd rfl h
/-- What ReadText reads, written again, stands there. -/
theorem rtF_ok (n : Nat) : ∀ (l acc : List UInt8) i S N, l.length ≤ n → rtF l acc i = (S, N, 0) →
    ∃ s c, N = i + c ∧ 2 ≤ c ∧ c ≤ l.length ∧ S = acc ++ s ∧ tx s = l.take c := by
  induction n with
  | zero =>
    intro l acc i S N hl h
    have : l = [] := List.length_eq_zero_iff.1 (by omega)
    subst this; simp [rtF] at h
  | succ n ih =>
    intro l acc i S N hl h
    match l, hl, h with
    | [], _, h => simp [rtF] at h
    | [x], _, h => rw [rtF_one] at h; simp at h
    | x :: y :: l, hl, h =>
      rw [rtF_cons2] at h
      simp at hl
      by_cases hx : x.toNat = 0
      · rw [if_pos hx] at h
        by_cases hy : y.toNat = 255
        · rw [if_pos hy] at h
          obtain ⟨s, c, h1, h2, h3, h4, h5⟩ := ih l (acc ++ [x]) (i + 2) S N (by omega) h
          refine ⟨x :: s, c + 2, by omega, by omega, by simp; omega, by rw [h4]; simp, ?_⟩
          unfold tx at *
          have ey : y = 255 := by rw [← u8_of hy]; rfl
          have e1 : txb (x :: s) = [x, 255] ++ txb s := by simp [txb, hx]
          rw [e1, List.append_assoc, h5, ← ey]; rfl
        · rw [if_neg hy] at h
          by_cases hy1 : y.toNat = 1
          · rw [if_pos hy1] at h
            simp only [Prod.mk.injEq] at h
            obtain ⟨rfl, rfl, _⟩ := h
            have ex : x = 0 := by rw [← u8_of hx]; rfl
            have ey : y = 1 := by rw [← u8_of hy1]; rfl
            exact ⟨[], 2, rfl, by omega, by simp, by simp, by rw [ex, ey]; rfl⟩
          · rw [if_neg hy1] at h; simp at h
      · rw [if_neg hx] at h
        obtain ⟨s, c, h1, h2, h3, h4, h5⟩ := ih (y :: l) (acc ++ [x]) (i + 1) S N (by simp; omega) h
        refine ⟨x :: s, c + 1, by omega, by omega, by simp at h3 ⊢; omega, by rw [h4]; simp, ?_⟩
        unfold tx at *
        have e1 : txb (x :: s) = [x] ++ txb s := by simp [txb, hx]
        rw [e1, List.append_assoc, h5]; rfl
theorem rtF_bad (n : Nat) : ∀ (l acc : List UInt8) i, l.length ≤ n → (rtF l acc i).2.2 ≠ 0 → (rtF l acc i).1 = [] ∧ (rtF l acc i).2.1 = 0 := by
  induction n with
  | zero =>
    intro l acc i hl _
    have : l = [] := List.length_eq_zero_iff.1 (by omega)
    subst this; exact ⟨rfl, rfl⟩
  | succ n ih =>
    intro l acc i hl h
    match l, hl, h with
    | [], _, _ => exact ⟨rfl, rfl⟩
    | [x], _, _ => exact ⟨rfl, rfl⟩
    | x :: y :: l, hl, h =>
      rw [rtF_cons2] at h ⊢
      simp at hl
      by_cases hx : x.toNat = 0
      · rw [if_pos hx] at h ⊢
        by_cases hy : y.toNat = 255
        · rw [if_pos hy] at h ⊢
          exact ih _ _ _ (by omega) h
        · rw [if_neg hy] at h ⊢
          by_cases hy1 : y.toNat = 1
          · rw [if_pos hy1] at h; exact absurd rfl h
          · rw [if_neg hy1]; exact ⟨rfl, rfl⟩
      · rw [if_neg hx] at h ⊢
        exact ih _ _ _ (by simp; omega) h
end Go.Proofs.Ytbcdmammedabmaa
