/- The contract of the reference's Write. -/
import Derived.Test.YtfgggfddehgigaaRK1
namespace Go.Proofs.Ytfgggfddehgigaa
open Go.RowKit

theorem rless_iff : ∀ a b : Ks, Op.bytesLess a b = true ↔ Lib.compareBytes a b = -1
  | [], [] => by simp [Op.bytesLess, Lib.compareBytes]
  | [], _ :: _ => by simp [Op.bytesLess, Lib.compareBytes]
  | _ :: _, [] => by simp [Op.bytesLess, Lib.compareBytes]
  | x :: a, y :: b => by
    have ih := rless_iff a b
    simp only [Op.bytesLess, Lib.compareBytes]
    by_cases h1 : x < y
    · simp [h1]
    · rw [if_neg h1]
      by_cases h2 : y < x
      · have : x ≠ y := fun e => by subst e; exact h1 h2
        simp [h1, h2, this]
      · have : x = y := u8_tri h1 h2
        subst this
        simp [ih]
theorem rless_ltK (a b : Ks) : Op.bytesLess a b = decide (ltK a b) := by
  rw [Bool.eq_iff_iff, rless_iff, decide_eq_true_iff]; rfl
theorem refShort_own (n : Nat) (h : n < 18446744073709551616) (w : World) :
    Calls Try.prog 22 #[.int .u64 (n : Int)] w fun e w' => ∃ v, e = .returned v ∧ Own w' w.heap.size v (sh n) ∧ Below w.heap.size w w' := refShort_any n h w
theorem svd_zero {k : Nat} {a b : Ks} (h : k % 8 = 0) : svd k a b = 0 := by unfold svd; rw [if_pos h]
theorem svd_com {k : Nat} {a b : Ks} (h : ¬ k % 8 = 0) : svd k a b = com a b := by unfold svd; rw [if_neg h]
end Go.Proofs.Ytfgggfddehgigaa
