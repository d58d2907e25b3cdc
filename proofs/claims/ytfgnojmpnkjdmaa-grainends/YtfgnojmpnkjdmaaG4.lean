/- Plain arithmetic of buckets and steps: no program in sight. -/
import Derived.Test.YtfgnojmpnkjdmaaG3
namespace Go.Proofs.Ytfgnojmpnkjdmaa
open Go.RowKit

theorem mul_lt_succ {s a b : Int} (hs : 0 < s) (h : s * a < s * b) : s * a + s ≤ s * b := by
  have h1 : a < b := Int.lt_of_mul_lt_mul_left h (by omega)
  have h2 : s * (a + 1) ≤ s * b := Int.mul_le_mul_of_nonneg_left (by omega) (by omega)
  rw [Int.mul_add, Int.mul_one] at h2
  exact h2
/-- A finer bucket lies within the coarser one. -/
theorem nest (t s S : Int) (h1 : 1 ≤ s) (h2 : s < S) (hd : S % s = 0) (ht : 0 ≤ t) : t - t % S ≤ t - t % s ∧ endF t s ≤ endF t S := by
  have e1 := Int.emod_add_mul_ediv t s
  have e2 := Int.emod_add_mul_ediv t S
  obtain ⟨c, hc⟩ := Int.dvd_of_emod_eq_zero hd
  have b1 := mod_bd t s ht h1
  have b2 := mod_bd t S ht (by omega)
  have f1 : t - t % s = s * (t / s) := by omega
  have f2 : t - t % S = s * (c * (t / S)) := by rw [← Int.mul_assoc, ← hc]; omega
  have f3 : t - t % S + S = s * (c * (t / S) + c) := by rw [f2, Int.mul_add, ← hc]
  constructor
  · by_cases h : t - t % S ≤ t - t % s
    · exact h
    · have : s * (t / s) < s * (c * (t / S)) := by omega
      have := mul_lt_succ (by omega) this
      omega
  · unfold endF
    have : s * (t / s) < s * (c * (t / S) + c) := by omega
    have := mul_lt_succ (by omega) this
    omega

/-- A step's bucket is old enough. -/
def cnd (R : Rl) (t w : Int) (j : Nat) : Prop := endF t (R.sz j) ≤ w - R.ag j
instance (R : Rl) (t w : Int) (j : Nat) : Decidable (cnd R t w j) := by unfold cnd; infer_instance
theorem fol_facts {R : Rl} (hR : RightP R) {j : Nat} (hj : j + 1 < R.len) : 1 ≤ R.sz j ∧ R.sz j < R.sz (j + 1) ∧ R.sz (j + 1) % R.sz j = 0 ∧ R.ag j ≤ R.ag (j + 1) := by
  obtain ⟨_, _, _, h, _⟩ := hR
  have h0 := (isS_iff _).1 (h j (by omega)).1
  have h1 := (h (j + 1) hj).2.2 (by omega)
  simp only [Nat.add_sub_cancel] at h1
  unfold folB at h1
  simp at h1
  exact ⟨h0.1, h1.1, h1.2.1, h1.2.2⟩
theorem cnd_down {R : Rl} (hR : RightP R) {t w : Int} (ht : isT t = true) {j : Nat} (hj : j + 1 < R.len) (h : cnd R t w (j + 1)) : cnd R t w j := by
  obtain ⟨f1, f2, f3, f4⟩ := fol_facts hR hj
  have := (nest t _ _ f1 f2 f3 ((isT_iff t).1 ht).1).2
  unfold cnd at *
  omega
theorem cnd_le {R : Rl} (hR : RightP R) {t w : Int} (ht : isT t = true) (d : Nat) : ∀ i, i + d < R.len → cnd R t w (i + d) → cnd R t w i := by
  induction d with
  | zero => intro i _ h; exact h
  | succ d ih => intro i hi h; exact ih i (by omega) (cnd_down hR ht (by omega) h)
/-- The step of a time at a watermark. -/
def IsStep (R : Rl) (t w : Int) (k : Nat) : Prop := k < R.len ∧ (k = 0 ∨ cnd R t w k) ∧ ∀ j, k < j → j < R.len → ¬ cnd R t w j
theorem IsStep.uniq {R : Rl} {t w : Int} {k l : Nat} (h : IsStep R t w k) (g : IsStep R t w l) : k = l := by
  rcases Nat.lt_trichotomy k l with e | e | e
  · rcases g.2.1 with h0 | h0
    · omega
    · exact absurd h0 (h.2.2 l e g.1)
  · exact e
  · rcases h.2.1 with h0 | h0
    · omega
    · exact absurd h0 (g.2.2 k e h.1)
theorem step_ex (R : Rl) (t w : Int) (n : Nat) (hn : n < R.len) (h : ∀ j, n < j → j < R.len → ¬ cnd R t w j) : ∃ k, IsStep R t w k := by
  induction n with
  | zero => exact ⟨0, hn, .inl rfl, h⟩
  | succ n ih =>
    by_cases hc : cnd R t w (n + 1)
    · exact ⟨n + 1, hn, .inr hc, h⟩
    · refine ih (by omega) fun j h1 h2 => ?_
      rcases Nat.lt_or_ge (n + 1) j with h3 | h3
      · exact h j h3 h2
      · have : j = n + 1 := by omega
        subst this; exact hc
theorem step_exists {R : Rl} (hR : RightP R) (t w : Int) : ∃ k, IsStep R t w k :=
  step_ex R t w (R.len - 1) (by have := hR.1; omega) (fun j h1 h2 => by omega)
/-- The first that is not old enough, behind those that are. -/
theorem isStep_break {R : Rl} (hR : RightP R) {t w : Int} (ht : isT t = true) {k : Nat} (hk : k < R.len) (h : ∀ j, j < k → cnd R t w j) (hn : ¬ cnd R t w k) : IsStep R t w (k - 1) := by
  refine ⟨by omega, ?_, ?_⟩
  · rcases Nat.eq_zero_or_pos k with h0 | h0
    · exact .inl (by omega)
    · exact .inr (h _ (by omega))
  · intro j h1 h2 hc
    exact hn (cnd_le hR ht (j - k) k (by omega) (by rw [show k + (j - k) = j by omega]; exact hc))
theorem isStep_all {R : Rl} (hR : RightP R) {t w : Int} (h : ∀ j, j < R.len → cnd R t w j) : IsStep R t w (R.len - 1) :=
  ⟨by have := hR.1; omega, .inr (h _ (by have := hR.1; omega)), fun j h1 h2 => by omega⟩
theorem sz_ok {R : Rl} (hR : RightP R) {i : Nat} (hi : i < R.len) : isS (R.sz i) = true := (hR.2.2.2.1 i hi).1
theorem ag_ok {R : Rl} (hR : RightP R) {i : Nat} (hi : i < R.len) : isT (R.ag i) = true := (hR.2.2.2.1 i hi).2.1
theorem endF_bd (t s : Int) (ht : isT t = true) (hs : isS s = true) : t < endF t s ∧ endF t s ≤ 2199023255552 := by
  have h1 := (isT_iff t).1 ht
  have h2 := (isS_iff s).1 hs
  have := mod_bd t s h1.1 h2.1
  unfold endF; omega
end Go.Proofs.Ytfgnojmpnkjdmaa
