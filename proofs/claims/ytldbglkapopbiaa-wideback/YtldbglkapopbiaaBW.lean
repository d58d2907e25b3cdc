/- Plain words on the sixteen bytes of a number: their order, the first digit turned, is the numbers'. -/
import Derived.Test.YtldbglkapopbiaaCZ
import Derived.Test.YtldbglkapopbiaaBV
namespace Go.Proofs.Ytldbglkapopbiaa
open Go.RowKit

theorem bc_of {n : Nat} (h : n < 256) : bc (UInt8.ofNat n) = .int .u8 (n : Int) := by
  unfold bc
  have : (UInt8.ofNat n).toNat = n := by simp [UInt8.toNat_ofNat']; omega
  rw [this]
theorem bv_append (l m : List UInt8) : bv (l ++ m) = bv l * 256 ^ m.length + bv m := by
  induction l with
  | nil => simp [bv]
  | cons x l ih =>
    show x.toNat * 256 ^ (l ++ m).length + bv (l ++ m) = (x.toNat * 256 ^ l.length + bv l) * 256 ^ m.length + bv m
    rw [ih, List.length_append, Nat.add_mul, Nat.mul_assoc, ← Nat.pow_add]; omega
/-- Eight bytes of a number. -/
def b8 (n : Nat) : List UInt8 := [UInt8.ofNat (n / 72057594037927936 % 256), UInt8.ofNat (n / 281474976710656 % 256), UInt8.ofNat (n / 1099511627776 % 256), UInt8.ofNat (n / 4294967296 % 256), UInt8.ofNat (n / 16777216 % 256), UInt8.ofNat (n / 65536 % 256), UInt8.ofNat (n / 256 % 256), UInt8.ofNat (n % 256)]
theorem b8_val (n : Nat) (h : n < 18446744073709551616) : bv (b8 n) = n := by
  have f : ∀ k : Nat, k < 256 → (UInt8.ofNat k).toNat = k := fun k hk => by simp [UInt8.toNat_ofNat']; omega
  unfold b8
  simp only [bv, List.length_cons, List.length_nil]
  rw [f _ (by omega), f _ (by omega), f _ (by omega), f _ (by omega), f _ (by omega), f _ (by omega), f _ (by omega), f _ (by omega)]
  omega
/-- The eight bytes, the first digit turned. -/
def t8 (n : Nat) : List UInt8 := UInt8.ofNat ((n / 72057594037927936 % 256 + 128) % 256) :: (b8 n).tail
theorem t8_val (n : Nat) : bv (t8 n) = (n + 9223372036854775808) % 18446744073709551616 := by
  have f : ∀ k : Nat, k < 256 → (UInt8.ofNat k).toNat = k := fun k hk => by simp [UInt8.toNat_ofNat']; omega
  unfold t8 b8
  simp only [bv, List.length_cons, List.length_nil, List.tail_cons]
  rw [f _ (by omega), f _ (by omega), f _ (by omega), f _ (by omega), f _ (by omega), f _ (by omega), f _ (by omega), f _ (by omega)]
  omega
theorem cells16 (n m : Nat) : (sixteen (n : Int) (m : Int)).map (Value.int .u8) = (b8 n ++ b8 m).map bc := by
  have e : sixteen (n : Int) (m : Int) = [((n / 72057594037927936 % 256 : Nat) : Int), ((n / 281474976710656 % 256 : Nat) : Int), ((n / 1099511627776 % 256 : Nat) : Int), ((n / 4294967296 % 256 : Nat) : Int), ((n / 16777216 % 256 : Nat) : Int), ((n / 65536 % 256 : Nat) : Int), ((n / 256 % 256 : Nat) : Int), ((n % 256 : Nat) : Int), ((m / 72057594037927936 % 256 : Nat) : Int), ((m / 281474976710656 % 256 : Nat) : Int), ((m / 1099511627776 % 256 : Nat) : Int), ((m / 4294967296 % 256 : Nat) : Int), ((m / 16777216 % 256 : Nat) : Int), ((m / 65536 % 256 : Nat) : Int), ((m / 256 % 256 : Nat) : Int), ((m % 256 : Nat) : Int)] := by
    unfold sixteen bytesTo byteOf
    simp [List.range_succ]
  rw [e]
  unfold b8
  simp only [List.map_cons, List.map_nil, List.cons_append, List.nil_append]
  rw [bc_of (by omega), bc_of (by omega), bc_of (by omega), bc_of (by omega), bc_of (by omega), bc_of (by omega), bc_of (by omega), bc_of (by omega), bc_of (by omega), bc_of (by omega), bc_of (by omega), bc_of (by omega), bc_of (by omega), bc_of (by omega), bc_of (by omega), bc_of (by omega)]
theorem xor128 : ∀ k : Fin 256, bits .xor .u8 (k.val : Int) 128 = (((k.val + 128) % 256 : Nat) : Int) := by decide +kernel
theorem turn128 (n : Nat) (h : n < 256) : bits .xor .u8 (n : Int) 128 = (((n + 128) % 256 : Nat) : Int) := xor128 ⟨n, h⟩
/-- The sixteen bytes, the first digit turned: their value is the number's, and 2^127. -/
def t16 (x : Int) : List UInt8 := t8 (hi x % 18446744073709551616).toNat ++ b8 (lo x).toNat
theorem t16_len (x : Int) : (t16 x).length = 16 := by unfold t16 t8 b8; simp
theorem t16_val (x : Int) (h1 : -170141183460469231731687303715884105728 ≤ x) (h2 : x < 170141183460469231731687303715884105728) : (bv (t16 x) : Int) = x + 170141183460469231731687303715884105728 := by
  have hh := hi_bd x
  have hl := lo_bd x
  have hb := halves_back x h1 h2
  unfold t16
  rw [bv_append, t8_val, b8_val _ (by omega)]
  have e : (b8 (lo x).toNat).length = 8 := rfl
  rw [e]
  have e2 : (256 : Nat) ^ 8 = 18446744073709551616 := by decide
  rw [e2]
  omega
theorem t16_less (x y : Int) (x1 : -170141183460469231731687303715884105728 ≤ x) (x2 : x < 170141183460469231731687303715884105728) (y1 : -170141183460469231731687303715884105728 ≤ y) (y2 : y < 170141183460469231731687303715884105728) : Op.bytesLess (t16 x) (t16 y) = decide (x < y) := by
  rw [less_bv _ _ (by rw [t16_len, t16_len])]
  have := t16_val x x1 x2
  have := t16_val y y1 y2
  apply decide_eq_decide.2; omega
end Go.Proofs.Ytldbglkapopbiaa
