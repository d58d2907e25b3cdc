/- The mathematics of what is turned: the sum tells it. -/
import Derived.Test.YtfhjhlddbcgfeaaV5
namespace Go.Proofs.Ytfhjhlddbcgfeaa

theorem pow_mul_xor (k a b : Nat) : 2 ^ k * (a ^^^ b) = (2 ^ k * a) ^^^ (2 ^ k * b) := by
  apply Nat.eq_of_testBit_eq
  intro i
  rw [Nat.testBit_xor, Nat.testBit_two_pow_mul, Nat.testBit_two_pow_mul, Nat.testBit_two_pow_mul, Nat.testBit_xor]
  by_cases h : k ≤ i <;> simp [h]
theorem add_xor {k a b : Nat} (h : b < 2 ^ k) : 2 ^ k * a + b = (2 ^ k * a) ^^^ b := by
  rw [Nat.two_pow_add_eq_or_of_lt h]
  apply Nat.eq_of_testBit_eq
  intro i
  rw [Nat.testBit_xor, Nat.testBit_or, Nat.testBit_two_pow_mul]
  by_cases hi : k ≤ i
  · have : b.testBit i = false := Nat.testBit_lt_two_pow (Nat.lt_of_lt_of_le h (Nat.pow_le_pow_right (by decide) hi))
    simp [this]
  · simp [hi]
theorem vle_cons (x : UInt8) (l : List UInt8) : vle (x :: l) = x.toNat ^^^ (2 ^ 8 * vle l) := low8 x _
/-- One byte is turned. -/
theorem vle_set (l : List UInt8) : ∀ (q : Nat) (h : q < l.length) (e : Nat), e < 256 → vle (l.set q (UInt8.ofNat (l[q].toNat ^^^ e))) = vle l ^^^ (2 ^ (8 * q) * e) := by
  induction l with
  | nil => intro q h; simp at h
  | cons x l ih =>
    intro q h e he
    cases q with
    | zero =>
      have hx := x.toNat_lt
      have hl : x.toNat ^^^ e < 2 ^ 8 := Nat.xor_lt_two_pow hx he
      have e1 : (UInt8.ofNat (x.toNat ^^^ e)).toNat = x.toNat ^^^ e := by rw [UInt8.toNat_ofNat']; exact Nat.mod_eq_of_lt hl
      rw [List.set_cons_zero, List.getElem_cons_zero, vle_cons, vle_cons, e1, Nat.mul_zero, Nat.pow_zero, Nat.one_mul, Nat.xor_assoc, Nat.xor_assoc, Nat.xor_comm e]
    | succ q =>
      have hq : q < l.length := by simpa using h
      rw [List.set_cons_succ, List.getElem_cons_succ, vle_cons, vle_cons, ih q hq e he, pow_mul_xor, ← Nat.mul_assoc, ← Nat.pow_add, Nat.xor_assoc, show 8 + 8 * q = 8 * (q + 1) by omega]
theorem low_bits (b i : Nat) : b % 2 ^ (i + 1) = (b % 2 ^ i) ^^^ (2 ^ i * (b / 2 ^ i % 2)) := by
  rw [Nat.mod_pow_succ, Nat.add_comm, add_xor (Nat.mod_lt _ (Nat.two_pow_pos i)), Nat.xor_comm]
/-- What is turned so far. -/
def Trn (f0 : List UInt8) (b p i : Nat) (F : List UInt8) : Prop := F.length = f0.length ∧ F.take 4 = f0.take 4 ∧ vle F = vle f0 ^^^ (2 ^ p * (b % 2 ^ i))
theorem Trn.zero (f0 : List UInt8) (b p : Nat) : Trn f0 b p 0 f0 := ⟨rfl, rfl, by simp [Nat.mod_one]⟩
theorem Trn.skip {f0 F : List UInt8} {b p i : Nat} (h : Trn f0 b p i F) (hb : b / 2 ^ i % 2 = 0) : Trn f0 b p (i + 1) F := by
  obtain ⟨h1, h2, h3⟩ := h
  exact ⟨h1, h2, by rw [h3, low_bits, hb, Nat.mul_zero, Nat.xor_zero]⟩
theorem Trn.turn {f0 F : List UInt8} {b p i : Nat} (h : Trn f0 b p i F) (hb : b / 2 ^ i % 2 = 1) (hp : 32 ≤ p) (hq : (p + i) / 8 < F.length) : Trn f0 b p (i + 1) (F.set ((p + i) / 8) (UInt8.ofNat (F[(p + i) / 8].toNat ^^^ 2 ^ ((p + i) % 8)))) := by
  obtain ⟨h1, h2, h3⟩ := h
  have he : 2 ^ ((p + i) % 8) < 256 := Nat.lt_of_lt_of_le (Nat.pow_lt_pow_right (by decide) (Nat.mod_lt _ (by decide))) (by decide : 2 ^ 8 ≤ 256)
  refine ⟨by simpa using h1, ?_, ?_⟩
  · rw [List.take_set_of_le (by omega)]; exact h2
  · rw [vle_set _ _ hq _ he, h3, low_bits, hb, Nat.mul_one, pow_mul_xor, ← Nat.pow_add, ← Nat.pow_add, Nat.xor_assoc, show 8 * ((p + i) / 8) + (p + i) % 8 = p + i by omega]
theorem vle_four (n : Nat) (h : n < 4294967296) : vle (four n) = n := by
  simp only [four, vle, UInt8.toNat_ofNat']
  omega
theorem xor_cancel (a c : Nat) : a ^^^ (c ^^^ a) = c := by rw [Nat.xor_comm c, ← Nat.xor_assoc, Nat.xor_self, Nat.zero_xor]
/-- Where the sum is right, the register is this one. -/
theorem reg_right (body tail : List UInt8) (h4 : tail.length = 4) (h : vle tail = mor 0 body) : reg 4294967295 (body ++ tail) = stps 32 4294967295 := by
  have hr := reg_lt body (c := 4294967295) (by decide)
  rw [reg_append, reg_eq tail, h4, h, mor, Nat.sub_zero, not32 hr, xor_cancel]
theorem reg_frm (l : List UInt8) : reg 4294967295 (frm l) = stps 32 4294967295 :=
  reg_right _ _ rfl (vle_four _ (mor_lt _ _))
/-- WHAT IS TURNED IS TOLD. -/
theorem turned (l F : List UInt8) (hl : l.length ≤ 65535) (b p : Nat) (hb : b < 4294967296) (h0 : b ≠ 0) (hp : p ≤ 8 * (l.length + 8)) (h : Trn (frm l) b p 32 F) : nxF F = ([], 0, 20) := by
  obtain ⟨h1, h2, h3⟩ := h
  rw [frm_len] at h1
  have e4 : (frm l).take 4 = four l.length := by
    unfold frm; rw [List.append_assoc]; rfl
  have hv : vle (F.take 4) = l.length := by rw [h2, e4, vle_four _ (by omega)]
  rw [nxF, hv, if_neg (by omega), if_neg (by omega), if_neg (by omega), if_pos]
  intro he
  have ht : ((F.drop (4 + l.length)).take 4) = F.drop (4 + l.length) := List.take_of_length_le (by simp; omega)
  rw [ht] at he
  have hr := reg_right (F.take (4 + l.length)) (F.drop (4 + l.length)) (by simp; omega) he
  rw [List.take_append_drop] at hr
  have hm : b % 2 ^ 32 = b := Nat.mod_eq_of_lt hb
  rw [reg_eq, h3, hm, ← Nat.xor_assoc, stps_xor, h1] at hr
  have hf := reg_frm l
  rw [reg_eq, frm_len] at hf
  rw [hf] at hr
  have hz : stps (8 * (l.length + 8)) (2 ^ p * b) = 0 := by
    have := congrArg (fun x => stps 32 4294967295 ^^^ x) hr
    simp only [← Nat.xor_assoc, Nat.xor_self, Nat.zero_xor] at this
    exact this
  rw [show 8 * (l.length + 8) = p + (8 * (l.length + 8) - p) by omega, stps_add, stps_pow] at hz
  exact stps_ne _ hb h0 hz
end Go.Proofs.Ytfhjhlddbcgfeaa
