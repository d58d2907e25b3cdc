/- The contract of math/bits.Div64 where 10 divides, and of wide.tenth, magnitude. -/
import Derived.Test.YtldbglkapopbiaaW2
import Derived.Laws.BitsAllLaws
namespace Go.Proofs.Ytldbglkapopbiaa
open Go.RowKit

set_option maxRecDepth 100000 in
set_option maxHeartbeats 400000 in
theorem lead10 (w : World) : Calls Try.prog 46 #[.int .u64 10] w fun e w' => e = .returned (.int .i64 60) ∧ w' = w := by
  go_enter Try.func46, Try.ntmps46
  go_wp2
  go_ret
  exact ⟨by kernel_rfl, rfl⟩

set_option maxHeartbeats 400000 in
theorem div10_low (l : Int) (l1 : 0 ≤ l) (l2 : l < 18446744073709551616) (w : World) :
    Calls Try.prog 42 #[.int .u64 0, .int .u64 l, .int .u64 10] w fun e w' => e = .returned (.tuple #[.int .u64 (l / 10), .int .u64 (l % 10)]) ∧ Below w.heap.size w w' := by
  go_enter Try.func42, Try.ntmps42
  go_wp2
  go_quiet (fail)
  go_wp2
  go_ret2
  exact ⟨rfl, below_drewN (Below.refl _ _) _⟩

theorem or_join (h l : Int) (h1 : 0 ≤ h) (h2 : h < 16) (l1 : 0 ≤ l) (l2 : l < 1152921504606846976) : bits .or .u64 (h * 1152921504606846976) l = h * 1152921504606846976 + l := by
  obtain ⟨a, rfl⟩ := Int.eq_ofNat_of_zero_le h1
  obtain ⟨b, rfl⟩ := Int.eq_ofNat_of_zero_le l1
  have e : (a : Int) * 1152921504606846976 = ((a * 1152921504606846976 : Nat) : Int) := by omega
  rw [e, bits_or_u64_nat _ _ (by omega) (by omega), nat_join 60 _ _ (by omega) (by omega)]
  omega

theorem ret2 {k k' : IntKind} {a b c d : Int} (h1 : a = c) (h2 : b = d) : Ending.returned (.tuple #[.int k a, .int k' b]) = .returned (.tuple #[.int k c, .int k' d]) := by rw [h1, h2]
theorem div10_quo (h l u m t : Int) (hu : u = h * 1152921504606846976 + l / 16) (hm : m = l % 16) (ht : t = u % 2684354560 * 4294967296 + m * 268435456) :
    u / 2684354560 * 4294967296 + t / 2684354560 = (h * 18446744073709551616 + l) / 10 := by omega
theorem div10_rem (h l u m t : Int) (hu : u = h * 1152921504606846976 + l / 16) (hm : m = l % 16) (ht : t = u % 2684354560 * 4294967296 + m * 268435456) :
    IntKind.u64.wrap (IntKind.u64.wrap (IntKind.u64.wrap (t * 4294967296)) - IntKind.u64.wrap (t / 2684354560 * 11529215046068469760)) / 1152921504606846976 = (h * 18446744073709551616 + l) % 10 := by
  have e : t % 2684354560 / 268435456 = (h * 18446744073709551616 + l) % 10 := by omega
  simp only [IntKind.wrap_u64]
  rw [← e]
  clear hu hm ht e
  omega

set_option maxHeartbeats 1000000 in
theorem div10_high (h l : Int) (h1 : 1 ≤ h) (h2 : h ≤ 9) (l1 : 0 ≤ l) (l2 : l < 18446744073709551616) (w : World) :
    Calls Try.prog 42 #[.int .u64 h, .int .u64 l, .int .u64 10] w fun e w' => e = .returned (.tuple #[.int .u64 ((h * 18446744073709551616 + l) / 10), .int .u64 ((h * 18446744073709551616 + l) % 10)]) ∧ Below w.heap.size w w' := by
  have hb : decide (10 ≤ h) = false := by simp; omega
  have A1 : bits .and .u64 11529215046068469760 4294967295 = 0 := by
    have := maskN 11529215046068469760 (by omega); simpa using this
  obtain ⟨u, hu⟩ : ∃ u, u = h * 1152921504606846976 + l / 16 := ⟨_, rfl⟩
  obtain ⟨m, hm⟩ : ∃ m, m = l % 16 := ⟨_, rfl⟩
  have A2 : bits .or .u64 (h * 1152921504606846976) (l / 16) = u := by rw [hu]; exact or_join h (l / 16) (by omega) (by omega) (by omega) (by omega)
  have A3 : IntKind.u64.wrap (l * 1152921504606846976) = m * 1152921504606846976 := by rw [IntKind.wrap_u64, hm]; omega
  have A4 : bits .and .u64 (m * 1152921504606846976) 4294967295 = 0 := by
    obtain ⟨k, hk⟩ := Int.eq_ofNat_of_zero_le (show 0 ≤ m by omega)
    have e : m * 1152921504606846976 = ((k * 1152921504606846976 : Nat) : Int) := by omega
    rw [e, maskN _ (by omega)]; omega
  have m1 : 0 ≤ m := by omega
  have m2 : m ≤ 15 := by omega
  have u1 : 0 ≤ u := by omega
  have u2 : u ≤ 11529215046068469759 := by omega
  obtain ⟨t, ht⟩ : ∃ t, t = u % 2684354560 * 4294967296 + m * 268435456 := ⟨_, rfl⟩
  have A5 : IntKind.u64.wrap (IntKind.u64.wrap (IntKind.u64.wrap (u * 4294967296) + m * 1152921504606846976 / 4294967296) - IntKind.u64.wrap (u / 2684354560 * 11529215046068469760)) = t := by
    simp only [IntKind.wrap_u64]; omega
  have t1 : 0 ≤ t := by omega
  have t2 : t < 11529215046068469760 := by omega
  have HT : Hid (t = u % 2684354560 * 4294967296 + m * 268435456) := ht
  clear ht
  have HU : Hid (u = h * 1152921504606846976 + l / 16) := hu
  have HM : Hid (m = l % 16) := hm
  clear hu hm
  go_enter Try.func42, Try.ntmps42
  go_wp2_with fail
  refine (lead10 _).mono ?_
  rintro e w' ⟨rfl, rfl⟩
  go_wp2_with fail
  go_loop [15, 16] (fun q r => q = .int .u64 (u / 2684354560) ∧ r = .int .u64 (u - u / 2684354560 * 2684354560)) (fun _ _ => 0)
  case atStart => exact ⟨rfl, rfl⟩
  case round =>
    obtain ⟨rfl, rfl⟩ := hrel
    go_wp2_with fail
    go_loop [16, 18] (fun r q => r = .int .u64 (t - t / 2684354560 * 2684354560) ∧ q = .int .u64 (t / 2684354560)) (fun _ _ => 0)
    case atStart => exact ⟨rfl, rfl⟩
    case round =>
      obtain ⟨rfl, rfl⟩ := hrel
      go_wp2_with fail
      go_ret2
      exact ⟨ret2 (div10_quo h l u m t HU.out HM.out HT.out) (div10_rem h l u m t HU.out HM.out HT.out), Below.refl _ _⟩

theorem div10 (h l : Int) (h1 : 0 ≤ h) (h2 : h ≤ 9) (l1 : 0 ≤ l) (l2 : l < 18446744073709551616) (w : World) :
    Calls Try.prog 42 #[.int .u64 h, .int .u64 l, .int .u64 10] w fun e w' => e = .returned (.tuple #[.int .u64 ((h * 18446744073709551616 + l) / 10), .int .u64 ((h * 18446744073709551616 + l) % 10)]) ∧ Below w.heap.size w w' := by
  by_cases h0 : h = 0
  · subst h0
    have e : (0 : Int) * 18446744073709551616 + l = l := by omega
    rw [e]
    exact div10_low l l1 l2 w
  · exact div10_high h l (by omega) h2 l1 l2 w

/-- wide.tenth, of a number without sign below 2^128. -/
theorem ret3 {k k' k'' : IntKind} {a b c a' b' c' : Int} (h1 : a = a') (h2 : b = b') (h3 : c = c') : Ending.returned (.tuple #[.int k a, .int k' b, .int k'' c]) = .returned (.tuple #[.int k a', .int k' b', .int k'' c']) := by rw [h1, h2, h3]
set_option maxHeartbeats 400000 in
theorem tenth_any (n : Int) (n1 : 0 ≤ n) (n2 : n < 340282366920938463463374607431768211456) (w : World) :
    Calls Try.prog 33 #[.int .u64 (n / 18446744073709551616), .int .u64 (n % 18446744073709551616)] w fun e w' => e = .returned (.tuple #[.int .u64 (n / 10 / 18446744073709551616), .int .u64 (n / 10 % 18446744073709551616), .int .u8 (n % 10)]) ∧ Below w.heap.size w w' := by
  obtain ⟨h, hh⟩ : ∃ h, h = n / 18446744073709551616 := ⟨_, rfl⟩
  obtain ⟨l, hl⟩ : ∃ l, l = n % 18446744073709551616 := ⟨_, rfl⟩
  rw [← hh, ← hl]
  have EQ : Hid ((h % 10 * 18446744073709551616 + l) / 10 = n / 10 % 18446744073709551616) := by unfold Hid; omega
  have EM : Hid ((h % 10 * 18446744073709551616 + l) % 10 = n % 10) := by unfold Hid; omega
  have EH : Hid (h / 10 = n / 10 / 18446744073709551616) := by unfold Hid; omega
  have h1 : 0 ≤ h := by omega
  have h2 : h < 18446744073709551616 := by omega
  have l1 : 0 ≤ l := by omega
  have l2 : l < 18446744073709551616 := by omega
  clear hh hl
  go_enter Try.func33, Try.ntmps33
  go_wp2_with fail
  refine (div10 (h % 10) l (by omega) (by omega) l1 l2 _).mono ?_
  rw [EQ.out, EM.out]
  rintro e w' ⟨rfl, hb⟩
  go_wp2_with fail
  go_ret3
  exact ⟨ret3 EH.out rfl rfl, hb⟩
end Go.Proofs.Ytldbglkapopbiaa
