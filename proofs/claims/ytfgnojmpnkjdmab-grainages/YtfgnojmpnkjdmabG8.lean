/- Plain arithmetic: times of one bucket. -/
import Derived.Test.YtfgnojmpnkjdmabG7
namespace Go.Proofs.Ytfgnojmpnkjdmab
open Go.RowKit

theorem fl_eq (t s : Int) : t - t % s = s * (t / s) := by have := Int.emod_add_mul_ediv t s; omega
theorem endF_quot (t s : Int) : endF t s = s * (t / s) + s := by unfold endF; rw [fl_eq]
theorem quot_up {t u s S : Int} (h1 : 1 ≤ s) (hd : S % s = 0) (h : t / s = u / s) : t / S = u / S := by
  obtain ⟨c, hc⟩ := Int.dvd_of_emod_eq_zero hd
  rw [hc, ← Int.ediv_ediv_of_nonneg (by omega), ← Int.ediv_ediv_of_nonneg (by omega), h]
theorem quot_all {R : Rl} (hR : RightP R) {t u : Int} {K : Nat} (h : t / R.sz K = u / R.sz K) : ∀ d, K + d < R.len → t / R.sz (K + d) = u / R.sz (K + d) := by
  intro d
  induction d with
  | zero => intro _; exact h
  | succ d ih =>
    intro hd
    obtain ⟨f1, f2, f3, _⟩ := fol_facts hR (j := K + d) (by omega)
    exact quot_up f1 f3 (ih (by omega))
theorem quot_ge {R : Rl} (hR : RightP R) {t u : Int} {K : Nat} (h : t / R.sz K = u / R.sz K) {j : Nat} (hj : K ≤ j) (hl : j < R.len) : t / R.sz j = u / R.sz j := by
  have := quot_all hR h (j - K) (by omega)
  rw [show K + (j - K) = j by omega] at this
  exact this
theorem end_same {R : Rl} (hR : RightP R) {t u : Int} {K : Nat} (h : t / R.sz K = u / R.sz K) {j : Nat} (hj : K ≤ j) (hl : j < R.len) : endF t (R.sz j) = endF u (R.sz j) := by
  rw [endF_quot, endF_quot, quot_ge hR h hj hl]
theorem step_same {R : Rl} (hR : RightP R) {t u w : Int} {K : Nat} (hK : IsStep R t w K) (h : t / R.sz K = u / R.sz K) : IsStep R u w K := by
  refine ⟨hK.1, ?_, fun j h1 h2 hc => hK.2.2 j h1 h2 ?_⟩
  · rcases hK.2.1 with h0 | h0
    · exact .inl h0
    · right; unfold cnd at *; rw [← end_same hR h (Nat.le_refl _) hK.1]; exact h0
  · unfold cnd at *; rw [end_same hR h (by omega) h2]; exact hc
theorem in_bucket {t s y : Int} (h1 : 1 ≤ s) (y1 : 0 ≤ y) (y2 : y < s) : (t - t % s + y) / s = t / s := by
  rw [fl_eq, Int.mul_comm, Int.add_comm, Int.add_mul_ediv_right _ _ (by omega), Int.ediv_eq_zero_of_lt y1 y2]; omega
theorem fl_same {t u s : Int} (h : t / s = u / s) : t - t % s = u - u % s := by rw [fl_eq, fl_eq, h]
theorem quot_of_fl {t u s : Int} (h1 : 1 ≤ s) (h : t - t % s = u - u % s) : t / s = u / s := by
  rw [fl_eq, fl_eq] at h
  exact Int.eq_of_mul_eq_mul_left (by omega) h
end Go.Proofs.Ytfgnojmpnkjdmab
