/- Plain arithmetic of numbers of 128 binary digits, told by their upper half (with sign) and lower half: no program in sight. -/
import Derived.WalkKit
import Derived.Laws.Bits64
namespace Go.Proofs.Ytdamlnpfpfpeeaa
open Go.RowKit

/-- The lower half of a number, modulo 2^128. -/
def lo (x : Int) : Int := x % 18446744073709551616
/-- The upper half of a number, modulo 2^128, with its sign. -/
def hi (x : Int) : Int := (x / 18446744073709551616 + 9223372036854775808) % 18446744073709551616 - 9223372036854775808

theorem lo_def (x : Int) : lo x = x % 18446744073709551616 := rfl
theorem hi_def (x : Int) : hi x = (x / 18446744073709551616 + 9223372036854775808) % 18446744073709551616 - 9223372036854775808 := rfl
theorem lo_bd (x : Int) : 0 ≤ lo x ∧ lo x < 18446744073709551616 := by unfold lo; omega
theorem hi_bd (x : Int) : -9223372036854775808 ≤ hi x ∧ hi x < 9223372036854775808 := by unfold hi; omega

/-- Each pair of halves is one number's that can be told. -/
theorem of_halves (h l : Int) (h1 : -9223372036854775808 ≤ h) (h2 : h ≤ 9223372036854775807) (l1 : 0 ≤ l) (l2 : l ≤ 18446744073709551615) :
    ∃ x : Int, -170141183460469231731687303715884105728 ≤ x ∧ x < 170141183460469231731687303715884105728 ∧ h = hi x ∧ l = lo x := by
  refine ⟨h * 18446744073709551616 + l, by omega, by omega, ?_, ?_⟩
  · unfold hi; omega
  · unfold lo; omega
theorem halves_back (x : Int) (h1 : -170141183460469231731687303715884105728 ≤ x) (h2 : x < 170141183460469231731687303715884105728) : hi x * 18446744073709551616 + lo x = x := by
  unfold hi lo; omega
theorem hi_small (v : Int) (h1 : -9223372036854775808 ≤ v) (h2 : v ≤ 9223372036854775807) : v / 9223372036854775808 = hi v := by
  unfold hi; omega
theorem add_lo (x y : Int) : (lo x + lo y) % 18446744073709551616 = lo (x + y) := by unfold lo; omega
theorem add_hi (x y : Int) : hi x + hi y + (lo x + lo y) / 18446744073709551616 = x / 18446744073709551616 + y / 18446744073709551616 + (lo x + lo y) / 18446744073709551616 + 18446744073709551616 * ((hi x - x / 18446744073709551616) / 18446744073709551616 + (hi y - y / 18446744073709551616) / 18446744073709551616) := by
  unfold hi lo; omega
/-- Equal halves: equal modulo 2^128. -/
theorem halves_inj (x y : Int) (h : hi x = hi y) (l : lo x = lo y) : (x - y) % 340282366920938463463374607431768211456 = 0 := by
  unfold hi at h; unfold lo at l; omega
theorem halves_mod (x y : Int) (h : (x - y) % 340282366920938463463374607431768211456 = 0) : hi x = hi y ∧ lo x = lo y := by
  unfold hi lo; omega
/-- The sum's upper half, as two carries make it. -/
theorem add_hi' (x y : Int) :
    ((hi x % 18446744073709551616 + hi y % 18446744073709551616 + (lo x + lo y) / 18446744073709551616) % 18446744073709551616 + 9223372036854775808) % 18446744073709551616 - 9223372036854775808 = hi (x + y) := by
  unfold hi lo; omega
/-- -1, 0, 1. -/
def sgn (x y : Int) : Int := if x < y then -1 else if x = y then 0 else 1
/-- A sum of a list. -/
def sumI : List Int → Int
  | [] => 0
  | a :: l => a + sumI l
theorem sumI_snoc (l : List Int) (a : Int) : sumI (l ++ [a]) = sumI l + a := by
  induction l with
  | nil => simp [sumI]
  | cons b l ih => simp [sumI, ih]; omega

theorem ones_xor (v : BitVec 64) : (BitVec.ofInt 64 (-1) ^^^ v).toNat = 18446744073709551615 - v.toNat := by
  have e : BitVec.ofInt 64 (-1) = BitVec.allOnes 64 := by decide
  rw [e, BitVec.allOnes_xor, BitVec.toNat_not]
theorem bits_not_i64 (h : Int) (h1 : -9223372036854775808 ≤ h) (h2 : h < 9223372036854775808) : bits .xor .i64 (-1) h = -1 - h := by
  show IntKind.i64.wrap ((BitVec.ofInt 64 (-1) ^^^ BitVec.ofInt 64 h).toNat : Int) = _
  rw [ones_xor, IntKind.wrap_i64]
  have e : (BitVec.ofInt 64 h).toNat = (h % 18446744073709551616).toNat := by rw [BitVec.toNat_ofInt]; rfl
  rw [e]
  omega
theorem bits_not_u64 (h : Int) (h1 : 0 ≤ h) (h2 : h < 18446744073709551616) : bits .xor .u64 IntKind.u64.max h = 18446744073709551615 - h := by
  show IntKind.u64.wrap ((BitVec.ofInt 64 IntKind.u64.max ^^^ BitVec.ofInt 64 h).toNat : Int) = _
  have e0 : BitVec.ofInt 64 IntKind.u64.max = BitVec.ofInt 64 (-1) := by decide
  rw [e0, ones_xor, IntKind.wrap_u64]
  have e : (BitVec.ofInt 64 h).toNat = (h % 18446744073709551616).toNat := by rw [BitVec.toNat_ofInt]; rfl
  rw [e]
  omega
end Go.Proofs.Ytdamlnpfpfpeeaa
