/- The digits of sums: pure; the reference's From, of any number's digits. -/
import Derived.Test.YtdamlnpfpfpeeaaXD1
import Derived.Test.YtdamlnpfpfpeeaaX3
namespace Go.Proofs.Ytdamlnpfpfpeeaa
open Go.RowKit

theorem dF_div (x : Int) (j : Nat) (hj : j < 16) : dF x j = x / 256 ^ j % 256 := by
  unfold dF dig uhD hi lo
  match j, hj with
  | 0, _ => simp
  | 1, _ => simp; omega
  | 2, _ => simp; omega
  | 3, _ => simp; omega
  | 4, _ => simp; omega
  | 5, _ => simp; omega
  | 6, _ => simp; omega
  | 7, _ => simp; omega
  | 8, _ => simp
  | 9, _ => simp; omega
  | 10, _ => simp; omega
  | 11, _ => simp; omega
  | 12, _ => simp; omega
  | 13, _ => simp; omega
  | 14, _ => simp; omega
  | 15, _ => simp; omega
  | k + 16, h => omega
theorem dF_bds (x : Int) (j : Nat) : 0 ≤ dF x j ∧ dF x j ≤ 255 := by unfold dF dig; split <;> omega
theorem pow256 (x : Int) (j : Nat) : x / 256 ^ (j + 1) = x / 256 ^ j / 256 := by
  rw [Int.pow_succ, ← Int.ediv_ediv_of_nonneg (Int.le_of_lt (Int.pow_pos (by decide)))]
/-- What is carried. -/
def cyF (x y : Int) (j : Nat) : Int := (x + y) / 256 ^ j - x / 256 ^ j - y / 256 ^ j
theorem cy_zero (x y : Int) : cyF x y 0 = 0 := by unfold cyF; simp; omega
theorem cy_rem (x y : Int) (j : Nat) (hj : j < 16) : (dF x j + dF y j + cyF x y j) % 256 = dF (x + y) j := by
  rw [dF_div x j hj, dF_div y j hj, dF_div (x + y) j hj]
  unfold cyF
  generalize x / 256 ^ j = a, y / 256 ^ j = b, (x + y) / 256 ^ j = c
  omega
theorem cy_quo (x y : Int) (j : Nat) (hj : j < 16) : (dF x j + dF y j + cyF x y j) / 256 = cyF x y (j + 1) := by
  rw [dF_div x j hj, dF_div y j hj]
  unfold cyF
  rw [pow256, pow256, pow256]
  generalize x / 256 ^ j = a, y / 256 ^ j = b, (x + y) / 256 ^ j = c
  omega
theorem cy_bd (x y : Int) : ∀ j, j ≤ 16 → 0 ≤ cyF x y j ∧ cyF x y j ≤ 1
  | 0, _ => by rw [cy_zero]; omega
  | j + 1, h => by
    have ih := cy_bd x y j (by omega)
    have h1 := dF_bds x j
    have h2 := dF_bds y j
    rw [← cy_quo x y j (by omega)]
    omega
theorem dF_minus (x : Int) (j : Nat) (hj : j < 16) : 255 - dF x j = dF (-x - 1) j := by
  rw [dF_div x j hj, dF_div _ j hj]
  have hp : (0 : Int) < 256 ^ j := Int.pow_pos (by decide)
  have e : (-x - 1) / 256 ^ j = -(x / 256 ^ j) - 1 := by
    have h1 := Int.mul_ediv_add_emod x (256 ^ j)
    have h2 := Int.emod_nonneg x (show (256 : Int) ^ j ≠ 0 by omega)
    have h3 := Int.emod_lt_of_pos x hp
    generalize x / 256 ^ j = q at *
    generalize x % 256 ^ j = r at *
    have e2 : -x - 1 = (256 ^ j - 1 - r) + 256 ^ j * (-q - 1) := by
      rw [← h1, Int.mul_sub, Int.mul_neg]; omega
    rw [e2, Int.add_mul_ediv_left _ _ (by omega), Int.ediv_eq_zero_of_lt (by omega) (by omega)]
    omega
  rw [e]
  generalize x / 256 ^ j = q
  omega
theorem from_N (x : Int) (w : World) : Calls Try.prog 38 #[.agg #[.int .i64 (dF x 0), .int .i64 (dF x 1), .int .i64 (dF x 2), .int .i64 (dF x 3), .int .i64 (dF x 4), .int .i64 (dF x 5), .int .i64 (dF x 6), .int .i64 (dF x 7), .int .i64 (dF x 8), .int .i64 (dF x 9), .int .i64 (dF x 10), .int .i64 (dF x 11), .int .i64 (dF x 12), .int .i64 (dF x 13), .int .i64 (dF x 14), .int .i64 (dF x 15)]] w fun e w' => e = .returned (wv x) ∧ Below w.heap.size w w' := by
  have h := from_any (dF x) ((List.range 16).map fun m => dF x (15 - m)) (by simp) (by
    intro z hz
    obtain ⟨m, _, rfl⟩ := List.mem_map.1 hz
    exact dF_bds x _) (by
    intro j hj
    have e : 15 - (15 - j) = j := by omega
    have hl : 15 - j < 16 := by omega
    simp [hl, e]) w
  have e1 : IntKind.i64.wrap (beval (((List.range 16).map fun m => dF x (15 - m)).take 8)) = hi x := by
    have e : ((List.range 16).map fun m => dF x (15 - m)).take 8 = [dF x 15, dF x 14, dF x 13, dF x 12, dF x 11, dF x 10, dF x 9, dF x 8] := rfl
    rw [e]
    simp only [beval, List.foldl_cons, List.foldl_nil]
    rw [IntKind.wrap_i64]
    unfold hi
    rw [dF_div x 15 (by decide), dF_div x 14 (by decide), dF_div x 13 (by decide), dF_div x 12 (by decide), dF_div x 11 (by decide), dF_div x 10 (by decide), dF_div x 9 (by decide), dF_div x 8 (by decide)]
    simp
    omega
  have e2 : beval (((List.range 16).map fun m => dF x (15 - m)).drop 8) = lo x := by
    have e : ((List.range 16).map fun m => dF x (15 - m)).drop 8 = [dF x 7, dF x 6, dF x 5, dF x 4, dF x 3, dF x 2, dF x 1, dF x 0] := rfl
    rw [e]
    simp only [beval, List.foldl_cons, List.foldl_nil]
    unfold lo
    rw [dF_div x 7 (by decide), dF_div x 6 (by decide), dF_div x 5 (by decide), dF_div x 4 (by decide), dF_div x 3 (by decide), dF_div x 2 (by decide), dF_div x 1 (by decide), dF_div x 0 (by decide)]
    simp
    omega
  rw [e1, e2] at h
  exact h
end Go.Proofs.Ytdamlnpfpfpeeaa
