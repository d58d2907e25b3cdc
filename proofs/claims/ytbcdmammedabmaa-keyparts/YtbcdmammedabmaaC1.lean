/- The contract of code.Short: a number, short. -/
import Derived.Test.YtbcdmammedabmaaC0
namespace Go.Proofs.Ytbcdmammedabmaa
open Go.RowKit

/-- A number's bytes, short. -/
def sh (n : Nat) : List UInt8 := if n < 128 then [UInt8.ofNat n] else UInt8.ofNat (n % 128 + 128) :: sh (n / 128)
termination_by n
decreasing_by omega
theorem sh_lo {n : Nat} (h : n < 128) : sh n = [UInt8.ofNat n] := by rw [sh]; simp [h]
theorem sh_hi {n : Nat} (h : ¬ n < 128) : sh n = UInt8.ofNat (n % 128 + 128) :: sh (n / 128) := by rw [sh]; simp [h]
theorem bc_of {n : Nat} (h : n < 256) : bc (UInt8.ofNat n) = .int .u8 (n : Int) := by
  unfold bc
  have : (UInt8.ofNat n).toNat = n := by simp [UInt8.toNat_ofNat']; omega
  rw [this]
theorem sh_len (k : Nat) : ∀ n, n < 128 ^ (k + 1) → (sh n).length ≤ k + 1 := by
  induction k with
  | zero => intro n hn; rw [sh_lo (by simpa using hn)]; simp
  | succ k ih =>
    intro n hn
    by_cases h : n < 128
    · rw [sh_lo h]; simp
    · rw [sh_hi h]
      have := ih (n / 128) (by rw [Nat.div_lt_iff_lt_mul (by omega)]; rw [Nat.pow_succ] at hn; exact hn)
      simp; omega
theorem sh_len10 {n : Nat} (h : n < 18446744073709551616) : (sh n).length ≤ 10 := sh_len 9 n (Nat.lt_of_lt_of_le h (by decide))
theorem sh_pos (n : Nat) : 0 < (sh n).length := by
  by_cases h : n < 128
  · rw [sh_lo h]; simp
  · rw [sh_hi h]; simp

end Go.Proofs.Ytbcdmammedabmaa
