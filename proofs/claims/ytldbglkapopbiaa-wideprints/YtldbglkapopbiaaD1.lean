/- Decimal digits: plain facts, no program in sight. -/
import Derived.WalkKit
namespace Go.Proofs.Ytldbglkapopbiaa
open Go.RowKit
/-- The decimal digits of n, L of them, the greatest first, as bytes. -/
def decs (n L : Nat) : List UInt8 := (List.range L).map fun i => UInt8.ofNat (48 + n / 10 ^ (L - 1 - i) % 10)
/-- L is how many digits n has. -/
def IsLen (n L : Nat) : Prop := 1 ≤ L ∧ n / 10 ^ L = 0 ∧ (L = 1 ∨ n / 10 ^ (L - 1) ≠ 0)
/-- What is left of n when its k lowest digits are gone. -/
def rk (n k : Nat) : Int := ((n / 10 ^ k : Nat) : Int)
theorem rk_zero (n : Nat) : rk n 0 = n := by simp [rk]
theorem rk_succ (n k : Nat) : rk n (k + 1) = rk n k / 10 := by
  unfold rk; rw [Nat.pow_succ, ← Nat.div_div_eq_div_mul]; omega
theorem rk_nn (n k : Nat) : 0 ≤ rk n k := by unfold rk; generalize n / 10 ^ k = q; omega
theorem rk_le (n k : Nat) : rk n k ≤ n := by unfold rk; have := Nat.div_le_self n (10 ^ k); omega
theorem rk_big (n k : Nat) (hn : n < 340282366920938463463374607431768211456) (hk : 39 ≤ k) : rk n k = 0 := by
  unfold rk
  have : (10 : Nat) ^ 39 ≤ 10 ^ k := Nat.pow_le_pow_right (by omega) hk
  have h39 : (10 : Nat) ^ 39 = 1000000000000000000000000000000000000000 := by decide
  rw [Nat.div_eq_of_lt (by omega)]; rfl
/-- The byte at place i of forty when the k lowest digits of n are laid from the end. -/
def dgAt (n k i : Nat) : Int := if 40 ≤ i + k then 48 + rk n (39 - i) % 10 else 0
theorem decs_len (n L : Nat) : (decs n L).length = L := by simp [decs]
theorem decs_get (n L j : Nat) (hj : j < (decs n L).length) (hL : L ≤ 40) : (((decs n L)[j]).toNat : Int) = dgAt n L (40 - L + j) := by
  have hj' : j < L := by simpa [decs] using hj
  have e : 39 - (40 - L + j) = L - 1 - j := by omega
  have hm : n / 10 ^ (L - 1 - j) % 10 < 10 := Nat.mod_lt _ (by omega)
  unfold dgAt
  rw [if_pos (by omega), e]
  simp only [decs, List.getElem_map, List.getElem_range, rk]
  rw [UInt8.toNat_ofNat', Nat.mod_eq_of_lt (by omega)]
  omega
theorem isLen_of (n k : Nat) (h1 : rk n (k + 1) = 0) (h2 : k = 0 ∨ rk n k ≠ 0) : IsLen n (k + 1) := by
  refine ⟨by omega, ?_, ?_⟩
  · unfold rk at h1; generalize n / 10 ^ (k + 1) = q at *; omega
  · rcases h2 with h2 | h2
    · left; omega
    · right; unfold rk at h2; rw [Nat.add_sub_cancel]; generalize n / 10 ^ k = q at *; omega
end Go.Proofs.Ytldbglkapopbiaa
