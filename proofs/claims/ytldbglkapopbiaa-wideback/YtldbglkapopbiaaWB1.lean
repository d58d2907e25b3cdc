/- A number's bytes, there and back; a number's text, read. -/
import Derived.Test.YtldbglkapopbiaaDP
import Derived.Test.YtldbglkapopbiaaWO
import Derived.Test.YtldbglkapopbiaaX5
namespace Go.Proofs.Ytldbglkapopbiaa
open Go.RowKit

theorem beval_go (l : List UInt8) : ∀ n : Int, (zsOf l).foldl (fun n x => n * 256 + x) n = n * (256 : Int) ^ l.length + (bv l : Nat) := by
  induction l with
  | nil => intro n; simp [zsOf, bv]
  | cons a l ih =>
    intro n
    have e : zsOf (a :: l) = (a.toNat : Int) :: zsOf l := rfl
    rw [e, List.foldl_cons, ih]
    have e2 : bv (a :: l) = a.toNat * 256 ^ l.length + bv l := rfl
    rw [e2, List.length_cons, Int.pow_succ]
    have e3 : ((a.toNat * 256 ^ l.length + bv l : Nat) : Int) = (a.toNat : Int) * (256 : Int) ^ l.length + (bv l : Nat) := by
      rw [Int.natCast_add, Int.natCast_mul, Int.natCast_pow]; rfl
    rw [e3]
    generalize (256 : Int) ^ l.length = q
    rw [Int.add_mul, Int.mul_assoc, Int.mul_comm 256 q]
    omega
theorem beval_of (l : List UInt8) : beval (zsOf l) = (bv l : Nat) := by
  unfold beval
  rw [beval_go]; omega
theorem zsOf_take (l : List UInt8) (k : Nat) : (zsOf l).take k = zsOf (l.take k) := by simp [zsOf, List.map_take]
theorem zsOf_drop (l : List UInt8) (k : Nat) : (zsOf l).drop k = zsOf (l.drop k) := by simp [zsOf, List.map_drop]
theorem bv8 (l : List UInt8) (h : l.length = 8) : bv l < 18446744073709551616 := by
  have := bv_lt l
  rw [h] at this
  exact this
theorem b8_len (n : Nat) : (b8 n).length = 8 := rfl
theorem rd_b16 (x : Int) : rdA (b16 x) = hi x ∧ rdB (b16 x) = lo x ∧ rdE (b16 x) = 0 := by
  have hh := hi_bd x
  have hl := lo_bd x
  have l16 := b16_len x
  have t1 : (b16 x).take 8 = b8 (hi x % 18446744073709551616).toNat := by unfold b16; rw [List.take_left' (b8_len _)]
  have t2 : (b16 x).drop 8 = b8 (lo x).toNat := by unfold b16; rw [List.drop_left' (b8_len _)]
  refine ⟨?_, ?_, ?_⟩
  · unfold rdA
    rw [if_pos l16, zsOf_take, beval_of, t1, b8_val _ (by omega), IntKind.wrap_i64]
    omega
  · unfold rdB
    rw [if_pos l16, zsOf_drop, beval_of, t2, b8_val _ (by omega)]
    omega
  · unfold rdE
    rw [if_neg (by omega), if_neg (by omega)]
theorem b8_bv (l : List UInt8) (h : l.length = 8) : b8 (bv l) = l := by
  exact bv_eq _ _ (by rw [b8_len, h]) (b8_val _ (bv8 l h))
theorem b16_rd (l : List UInt8) (h : rdE l = 0) : ∃ x, rdA l = hi x ∧ rdB l = lo x ∧ b16 x = l := by
  have h16 : l.length = 16 := by
    unfold rdE at h
    split at h
    · cases h
    · split at h
      · cases h
      · omega
  have q1 : (l.take 8).length = 8 := by simp; omega
  have q2 : (l.drop 8).length = 8 := by simp; omega
  have n1 := bv8 (l.take 8) q1
  have n2 := bv8 (l.drop 8) q2
  have eA : rdA l = ((bv (l.take 8) : Nat) + 9223372036854775808 : Int) % 18446744073709551616 - 9223372036854775808 := by unfold rdA; rw [if_pos h16, zsOf_take, beval_of, IntKind.wrap_i64]
  have eB : rdB l = (bv (l.drop 8) : Nat) := by unfold rdB; rw [if_pos h16, zsOf_drop, beval_of]
  have hA : -9223372036854775808 ≤ rdA l ∧ rdA l ≤ 9223372036854775807 ∧ rdA l % 18446744073709551616 = (bv (l.take 8) : Nat) := by
    rw [eA]; omega
  obtain ⟨x, _, _, e1, e2⟩ := of_halves (rdA l) (rdB l) hA.1 hA.2.1 (by rw [eB]; omega) (by rw [eB]; omega)
  refine ⟨x, e1, e2, ?_⟩
  unfold b16
  rw [← e1, ← e2, hA.2.2, eB, Int.toNat_natCast, Int.toNat_natCast, b8_bv _ q1, b8_bv _ q2, List.take_append_drop]
theorem parse_pr (x : Int) (x1 : -170141183460469231731687303715884105728 ≤ x) (x2 : x < 170141183460469231731687303715884105728) (w : World) :
    Calls Try.prog 16 #[.string ⟨(pr x).toArray⟩] w fun e w' => e = .returned (.tuple #[.agg #[.int .i64 (hi x), .int .u64 (lo x)], .int .i64 0]) ∧ Below w.heap.size w w' := by
  obtain ⟨h1, h2⟩ := ps_pr x x1 x2
  have hl := pr_len x x1 x2
  have hp := parse_ok ⟨(pr x).toArray⟩ (by show (pr x).toArray.size ≤ maxLen; simp [maxLen]; omega) h1 w
  have e : psN ((⟨(pr x).toArray⟩ : ByteArray).data.toList) = x := h2
  rw [e] at hp
  exact hp
theorem read_b16 (x : Int) (v : Value) (w : World) (h : Reads w v (b16 x)) :
    Calls Try.prog 20 #[v] w fun e w' => e = .returned (.tuple #[.agg #[.int .i64 (hi x), .int .u64 (lo x)], .int .i64 0]) ∧ Below w.heap.size w w' := by
  have := wideRead_any v (b16 x) w h
  obtain ⟨a, b, c⟩ := rd_b16 x
  rw [a, b, c] at this
  exact this
/-- What Parse answers to any text, in one form. -/
theorem parse_uni (s : ByteArray) (hs : s.size ≤ maxLen) : ∃ (y e : Int), (∀ w, Calls Try.prog 16 #[.string s] w fun r w' => r = .returned (.tuple #[.agg #[.int .i64 (hi y), .int .u64 (lo y)], .int .i64 e]) ∧ Below w.heap.size w w') ∧
    (e ≠ 0 ∨ e = 0 ∧ pr y = s.data.toList ∧ -170141183460469231731687303715884105728 ≤ y ∧ y < 170141183460469231731687303715884105728) := by
  by_cases hf : psF s.data.toList
  · by_cases ht : psT s.data.toList
    · obtain ⟨a, b, c⟩ := pr_ps _ ht
      exact ⟨_, 0, fun w => parse_ok s hs ht w, .inr ⟨rfl, a, b, c⟩⟩
    · exact ⟨0, 11, fun w => by rw [hi_zero, lo_zero]; exact parse_wide s hs hf ht w, .inl (by decide)⟩
  · exact ⟨0, 3, fun w => by rw [hi_zero, lo_zero]; exact parse_form s hs hf w, .inl (by decide)⟩
theorem read_uni (v : Value) (l : List UInt8) : ∃ (a b e : Int), (∀ w, Reads w v l → Calls Try.prog 20 #[v] w fun r w' => r = .returned (.tuple #[.agg #[.int .i64 a, .int .u64 b], .int .i64 e]) ∧ Below w.heap.size w w') ∧
    (e ≠ 0 ∨ e = 0 ∧ ∃ x, a = hi x ∧ b = lo x ∧ b16 x = l) := by
  refine ⟨rdA l, rdB l, rdE l, fun w h => wideRead_any v l w h, ?_⟩
  by_cases h : rdE l = 0
  · exact .inr ⟨h, b16_rd l h⟩
  · exact .inl h
end Go.Proofs.Ytldbglkapopbiaa
