/- The contracts of wide.Minus, Times, Cmp: what they return, and that nothing that was there is changed. -/
import Derived.Test.YtldbglkapopbiaaW1
import Derived.BigQuiet
import Derived.Deep.QuietTactic
namespace Go.Proofs.Ytldbglkapopbiaa
open Go.RowKit
theorem sgn_lt {x y : Int} (h : x < y) : sgn x y = -1 := by unfold sgn; rw [if_pos h]
theorem sgn_gt {x y : Int} (h : y < x) : sgn x y = 1 := by unfold sgn; rw [if_neg (by omega), if_neg (by omega)]
theorem sgn_eq {x y : Int} (h : x = y) : sgn x y = 0 := by unfold sgn; rw [if_neg (by omega), if_pos h]
set_option maxHeartbeats 400000 in
theorem cmp64i (x y : Int) (w : World) :
    Calls Try.prog 37 #[.int .i64 x, .int .i64 y] w fun e w' => e = .returned (.int .i64 (sgn x y)) ∧ w' = w := by
  go_enter Try.func37, Try.ntmps37
  go_wp2
  all_goals go_ret
  · rw [sgn_lt ‹_›]; exact ⟨rfl, rfl⟩
  · rw [sgn_gt ‹_›]; exact ⟨rfl, rfl⟩
  · rw [sgn_eq (by omega)]; exact ⟨rfl, rfl⟩
set_option maxHeartbeats 400000 in
theorem cmp64u (x y : Int) (w : World) :
    Calls Try.prog 38 #[.int .u64 x, .int .u64 y] w fun e w' => e = .returned (.int .i64 (sgn x y)) ∧ w' = w := by
  go_enter Try.func38, Try.ntmps38
  go_wp2
  all_goals go_ret
  · rw [sgn_lt ‹_›]; exact ⟨rfl, rfl⟩
  · rw [sgn_gt ‹_›]; exact ⟨rfl, rfl⟩
  · rw [sgn_eq (by omega)]; exact ⟨rfl, rfl⟩
theorem not_hi (x : Int) : -1 - hi x = hi (-1 - x) := by unfold hi; omega
theorem not_lo (x : Int) : 18446744073709551615 - lo x = lo (-1 - x) := by unfold lo; omega

set_option maxHeartbeats 400000 in
theorem minus_any (x : Int) (w : World) :
    Calls Try.prog 12 #[.agg #[.int .i64 (hi x), .int .u64 (lo x)]] w fun e w' => e = .returned (.agg #[.int .i64 (hi (-x)), .int .u64 (lo (-x))]) ∧ Below w.heap.size w w' := by
  have lx := lo_bd x; have hx := hi_bd x
  have e1 : (-1 - x) + 1 = -x := by omega
  rw [← e1]
  clear e1
  have hs1 : IntKind.i64.signed = true := rfl
  have hs2 : IntKind.u64.signed = false := rfl
  have E1 : bits .xor .i64 (-1) (hi x) = hi (-1 - x) := (bits_not_i64 _ hx.1 hx.2).trans (not_hi x)
  have E2 : bits .xor .u64 IntKind.u64.max (lo x) = lo (-1 - x) := (bits_not_u64 _ lx.1 lx.2).trans (not_lo x)
  go_enter Try.func12, Try.ntmps12
  go_wp2_with fail
  go_region_held3 (fun w' => w'.cell? ⟨w.heap.size, 0, none⟩ = some (.int .i64 (hi x)) ∧ w'.cell? ⟨w.heap.size, 1, none⟩ = some (.int .u64 (lo x))) (simp [go_sem, World.cell?_alloc_past])
    (first
      | (go_at_call 8; refine (of_exact 1 (by decide) (by decide) _).mono ?_; rintro e w' ⟨rfl, c, rfl⟩)
      | (go_at_call 10; refine (add_exact (-1 - x) 1 _).mono ?_; rintro e w' ⟨rfl, c1, c2, c3, c4, c5, rfl⟩))
  go_wp2
  refine bodyPost_ret (v := .agg #[.int .i64 (hi (-1 - x + 1)), .int .u64 (lo (-1 - x + 1))]) (by simp [results, Try.results12, go_sem]) rfl ⟨rfl, ?_⟩
  exact ((((((((((Below.refl _ _).alloc (by simp) _).alloc (by simp) _).alloc (by simp; omega) _).alloc (by simp; omega) _).alloc (by simp; omega) _).alloc (by simp; omega) _).alloc (by simp; omega) _).alloc (by simp; omega) _)).drew

theorem maskN (a : Nat) (ha : a < 18446744073709551616) : bits .and .u64 (a : Int) 4294967295 = ((a % 4294967296 : Nat) : Int) := by
  have h := bits_and_u64_nat a 4294967295 ha (by omega)
  have e : a &&& 4294967295 = a % 4294967296 := Nat.and_two_pow_sub_one_eq_mod a 32
  rw [e] at h
  exact h
theorem divN (a : Nat) : (a : Int) / 4294967296 = ((a / 4294967296 : Nat) : Int) := by omega
theorem mulN (a b : Nat) : (a : Int) * (b : Int) = ((a * b : Nat) : Int) := (Int.natCast_mul a b).symm
theorem addN (a b : Nat) : (a : Int) + (b : Int) = ((a + b : Nat) : Int) := (Int.natCast_add a b).symm
theorem wrapN (a : Nat) (ha : a < 18446744073709551616) : IntKind.u64.wrap (a : Int) = (a : Int) := by rw [IntKind.wrap_u64]; omega
theorem wrapM (a : Nat) : IntKind.u64.wrap (a : Int) = ((a % 18446744073709551616 : Nat) : Int) := by rw [IntKind.wrap_u64]; omega

set_option maxHeartbeats 1000000 in
theorem mul64N (x y : Nat) (hx : x < 18446744073709551616) (hy : y < 18446744073709551616) (w : World) :
    Calls Try.prog 28 #[.int .u64 x, .int .u64 y] w fun e w' => e = .returned (.tuple #[.int .u64 ((x * y / 18446744073709551616 : Nat) : Int), .int .u64 ((x * y % 18446744073709551616 : Nat) : Int)]) ∧ w' = w := by
  obtain ⟨bd, bt, bw, hhi⟩ := Lib.mul64_hi x y hx hy
  have ba := Lib.half_mul_le (a := x / 4294967296) (b := y / 4294967296) (by omega) (by omega)
  have bb := Lib.half_mul_le (a := x / 4294967296) (b := y % 4294967296) (by omega) (by omega)
  have bc := Lib.half_mul_le (a := x % 4294967296) (b := y / 4294967296) (by omega) (by omega)
  have ba' : x / 4294967296 * (y / 4294967296) < 18446744073709551616 := by omega
  have bb' : x / 4294967296 * (y % 4294967296) < 18446744073709551616 := by omega
  have bc' : x % 4294967296 * (y / 4294967296) < 18446744073709551616 := by omega
  have bh1 : x / 4294967296 * (y / 4294967296) + (x / 4294967296 * (y % 4294967296) + x % 4294967296 * (y % 4294967296) / 4294967296) / 4294967296 < 18446744073709551616 := by omega
  have bh : x / 4294967296 * (y / 4294967296) + (x / 4294967296 * (y % 4294967296) + x % 4294967296 * (y % 4294967296) / 4294967296) / 4294967296 + ((x / 4294967296 * (y % 4294967296) + x % 4294967296 * (y % 4294967296) / 4294967296) % 4294967296 + x % 4294967296 * (y / 4294967296)) / 4294967296 < 18446744073709551616 := by omega
  go_enter Try.func28, Try.ntmps28
  go_wp2
  simp only [maskN x hx, maskN y hy, divN, mulN, addN, wrapN _ bd, wrapN _ bb', wrapN _ bt, maskN _ bt, wrapN _ bc', wrapN _ bw, wrapN _ ba', wrapN _ bh1, wrapN _ bh, wrapM (x * y)]
  rw [hhi]
  go_ret2
  exact ⟨rfl, rfl⟩

theorem mul64 (x y : Int) (h1 : 0 ≤ x) (h2 : x < 18446744073709551616) (h3 : 0 ≤ y) (h4 : y < 18446744073709551616) (w : World) :
    Calls Try.prog 28 #[.int .u64 x, .int .u64 y] w fun e w' => e = .returned (.tuple #[.int .u64 (x * y / 18446744073709551616), .int .u64 (x * y % 18446744073709551616)]) ∧ w' = w := by
  obtain ⟨a, rfl⟩ := Int.eq_ofNat_of_zero_le h1
  obtain ⟨b, rfl⟩ := Int.eq_ofNat_of_zero_le h3
  have h := mul64N a b (by omega) (by omega) w
  have e1 : ((a * b / 18446744073709551616 : Nat) : Int) = (a : Int) * b / 18446744073709551616 := by rw [← Int.natCast_mul]; omega
  have e2 : ((a * b % 18446744073709551616 : Nat) : Int) = (a : Int) * b % 18446744073709551616 := by rw [← Int.natCast_mul]; omega
  rw [e1, e2] at h
  exact h

theorem times_neg (v n : Int) (_h1 : -9223372036854775808 ≤ v) (h2 : v < 0) :
    (v % 18446744073709551616) * n = v * n + 18446744073709551616 * n := by
  have e : v % 18446744073709551616 = v + 18446744073709551616 := by omega
  rw [e, Int.add_mul]
theorem times_lo (v n : Int) : (v % 18446744073709551616) * n % 18446744073709551616 = lo (v * n) := by
  unfold lo; rw [Int.mul_emod, Int.emod_emod_of_dvd _ (Int.dvd_refl _), ← Int.mul_emod]

set_option maxHeartbeats 400000 in
theorem times_any (v n : Int) (h1 : -9223372036854775808 ≤ v) (h2 : v ≤ 9223372036854775807) (h3 : 0 ≤ n) (h4 : n < 18446744073709551616) (w : World) :
    Calls Try.prog 14 #[.int .i64 v, .int .u64 n] w fun e w' => e = .returned (.agg #[.int .i64 (hi (v * n)), .int .u64 (lo (v * n))]) ∧ Below w.heap.size w w' := by
  by_cases hv : v < 0
  · have EM := times_neg v n h1 hv
    have EL := times_lo v n
    have EH : Hid (wrap64 (((v % 18446744073709551616) * n / 18446744073709551616 - n) % 18446744073709551616) = hi (v * n)) := by
      unfold Hid wrap64 hi; rw [EM]; omega
    generalize hq : (v % 18446744073709551616) * n / 18446744073709551616 = q at *
    have HQ : Hid ((v % 18446744073709551616) * n / 18446744073709551616 = q) := hq
    have HL : Hid ((v % 18446744073709551616) * n % 18446744073709551616 = lo (v * n)) := EL
    clear EM EL hq
    go_enter Try.func14, Try.ntmps14
    go_wp2_with fail
    simp only [IntKind.wrap_u64]
    refine (mul64 _ n (by omega) (by omega) h3 h4 _).mono ?_
    rw [HQ.out, HL.out]
    rintro e w' ⟨rfl, rfl⟩
    go_wp2_with fail
    refine bodyPost_ret (v := .agg #[.int .i64 (wrap64 (IntKind.u64.wrap (q - n))), .int .u64 (lo (v * n))]) (by simp [results, Try.results14, go_sem]) rfl ⟨?_, (Below.refl _ _).alloc (by simp) _⟩
    rw [IntKind.wrap_u64, EH.out]
  · have hvn : 0 ≤ v * n := Int.mul_nonneg (by omega) h3
    have EH : Hid (wrap64 (v * n / 18446744073709551616) = hi (v * n)) := by unfold Hid wrap64 hi; rfl
    have HL : Hid (v * n % 18446744073709551616 = lo (v * n)) := by unfold Hid lo; rfl
    go_enter Try.func14, Try.ntmps14
    go_wp2_with fail
    refine (mul64 v n (by omega) (by omega) h3 h4 _).mono ?_
    rw [HL.out]
    generalize hq : v * n / 18446744073709551616 = q at *
    clear hq hvn
    rintro e w' ⟨rfl, rfl⟩
    go_wp2_with fail
    refine bodyPost_ret (v := .agg #[.int .i64 (wrap64 q), .int .u64 (lo (v * n))]) (by simp [results, Try.results14, go_sem]) rfl ⟨?_, (Below.refl _ _).alloc (by simp) _⟩
    rw [EH.out]

set_option maxHeartbeats 400000 in
theorem cmp_any (x y : Int) (x1 : -170141183460469231731687303715884105728 ≤ x) (x2 : x < 170141183460469231731687303715884105728) (y1 : -170141183460469231731687303715884105728 ≤ y) (y2 : y < 170141183460469231731687303715884105728) (w : World) :
    Calls Try.prog 24 #[.agg #[.int .i64 (hi x), .int .u64 (lo x)], .agg #[.int .i64 (hi y), .int .u64 (lo y)]] w fun e w' => e = .returned (.int .i64 (sgn x y)) ∧ Below w.heap.size w w' := by
  have bx := halves_back x x1 x2; have by' := halves_back y y1 y2
  have lx := lo_bd x; have ly := lo_bd y
  by_cases hne : hi x = hi y
  · have e : sgn (lo x) (lo y) = sgn x y := by
      unfold sgn
      by_cases h : lo x < lo y
      · rw [if_pos h, if_pos (by omega)]
      · by_cases h' : lo x = lo y
        · rw [if_neg h, if_pos h', if_neg (by omega), if_pos (by omega)]
        · rw [if_neg h, if_neg h', if_neg (by omega), if_neg (by omega)]
    have hb : (hi x != hi y) = false := by simp [hne]
    have E : Hid (sgn (lo x) (lo y) = sgn x y) := e
    clear bx by' e hne
    go_enter Try.func24, Try.ntmps24
    go_wp2_with fail
    refine (cmp64u _ _ _).mono ?_
    rintro e w' ⟨rfl, rfl⟩
    go_wp2_with fail
    go_ret
    exact ⟨by rw [← E.out]; rfl, ((Below.refl _ _).alloc (by simp) _).alloc (by simp) _⟩
  · have e : sgn (hi x) (hi y) = sgn x y := by
      unfold sgn
      by_cases h : hi x < hi y
      · rw [if_pos h, if_pos (by omega)]
      · rw [if_neg h, if_neg hne, if_neg (by omega), if_neg (by omega)]
    have hb : (hi x != hi y) = true := by simp [hne]
    have E : Hid (sgn (hi x) (hi y) = sgn x y) := e
    clear bx by' e hne
    go_enter Try.func24, Try.ntmps24
    go_wp2_with fail
    refine (cmp64i _ _ _).mono ?_
    rintro e w' ⟨rfl, rfl⟩
    go_wp2_with fail
    go_ret
    exact ⟨by rw [← E.out]; rfl, ((Below.refl _ _).alloc (by simp) _).alloc (by simp) _⟩
end Go.Proofs.Ytldbglkapopbiaa
