/- The walk of BlockSeeks. -/
import Derived.Test.YtfgggfddehgigaaBK9
import Derived.Test.YtfgggfddehgigaaBK10
import Derived.Test.YtfgggfddehgigaaBK11
namespace Go.Proofs.Ytfgggfddehgigaa
open Go.RowKit

theorem less_iff : ∀ a b : Ks, Op.bytesLess a b = true ↔ Lib.compareBytes a b = -1
  | [], [] => by simp [Op.bytesLess, Lib.compareBytes]
  | [], _ :: _ => by simp [Op.bytesLess, Lib.compareBytes]
  | _ :: _, [] => by simp [Op.bytesLess, Lib.compareBytes]
  | x :: a, y :: b => by
    have ih := less_iff a b
    simp only [Op.bytesLess, Lib.compareBytes]
    by_cases h1 : x < y
    · simp [h1]
    · rw [if_neg h1]
      by_cases h2 : y < x
      · have : x ≠ y := fun e => by subst e; exact h1 h2
        simp [h1, h2, this]
      · have : x = y := u8_tri h1 h2
        subst this
        simp [ih]
theorem less_ltK (a b : Ks) : Op.bytesLess a b = decide (ltK a b) := by
  rw [Bool.eq_iff_iff, less_iff, decide_eq_true_iff]; rfl
theorem wrB_len {l : List Pr} (h : ¬ (60 < l.length ∧ l.length ≤ 4096)) (h0 : mbF l = 0) : (wrB l).length ≤ 1000000 := by
  obtain ⟨h1, h2, _⟩ := mb_zero.1 h0
  have := wbF_len l 0 [] h2
  unfold wrB wb
  rw [if_pos h0]
  omega
theorem rd_wr {l : List Pr} (h0 : mbF l = 0) : rdB (wrB l) = some l := by
  unfold wrB; rw [if_pos h0]; exact rdB_wb h0
/-- Was one found so far? -/
def fnd (l : List Pr) (key : Ks) (k : Nat) : Bool := (l.take k).any fun x => decide (¬ ltK x.1 key)
theorem fnd_no {l : List Pr} {key : Ks} {k : Nat} (h : fnd l key k = false) : ∀ x ∈ l.take k, ltK x.1 key := by
  unfold fnd at h
  intro x hx
  have := List.any_eq_false.1 h x hx
  simpa using this
end Go.Proofs.Ytfgggfddehgigaa
