/- The sum's mathematics: the register as a natural number, of any length. -/
namespace Go.Proofs.Ytgdjjpnejdedhaa

/-- One digit leaves the register. -/
def stp (c : Nat) : Nat := if c % 2 = 1 then (c / 2) ^^^ 2197175160 else c / 2
/-- So many digits leave it. -/
def stps : Nat → Nat → Nat
  | 0, c => c
  | n + 1, c => stps n (stp c)
/-- The register behind a byte. -/
def byt (c : Nat) (x : UInt8) : Nat := stps 8 (c ^^^ x.toNat)
/-- The register behind bytes. -/
def reg (c : Nat) : List UInt8 → Nat
  | [] => c
  | x :: l => reg (byt c x) l
theorem reg_nil (c : Nat) : reg c [] = c := rfl
theorem reg_cons (c : Nat) (x : UInt8) (l : List UInt8) : reg c (x :: l) = reg (byt c x) l := rfl
/-- The sum of what goes on. -/
def mor (s : Nat) (l : List UInt8) : Nat := 4294967295 - reg (4294967295 - s) l
/-- The value of bytes, the least one first. -/
def vle : List UInt8 → Nat
  | [] => 0
  | x :: l => x.toNat + 256 * vle l
/-- A number as four bytes, the least one first. -/
def four (n : Nat) : List UInt8 := [UInt8.ofNat n, UInt8.ofNat (n / 256), UInt8.ofNat (n / 65536), UInt8.ofNat (n / 16777216)]

theorem xor_lt32 {a b : Nat} (ha : a < 4294967296) (hb : b < 4294967296) : a ^^^ b < 4294967296 := Nat.xor_lt_two_pow (n := 32) ha hb
theorem stp_lt {c : Nat} (h : c < 4294967296) : stp c < 4294967296 := by
  unfold stp; split
  · exact xor_lt32 (by omega) (by omega)
  · omega
theorem stps_lt (n : Nat) : ∀ {c : Nat}, c < 4294967296 → stps n c < 4294967296 := by
  induction n with
  | zero => intro c h; exact h
  | succ n ih => intro c h; exact ih (stp_lt h)
theorem byt_lt {c : Nat} {x : UInt8} (h : c < 4294967296) : byt c x < 4294967296 := stps_lt 8 (xor_lt32 h (by have := x.toNat_lt; omega))
theorem reg_lt (l : List UInt8) : ∀ {c : Nat}, c < 4294967296 → reg c l < 4294967296 := by
  induction l with
  | nil => intro c h; exact h
  | cons x l ih => intro c h; exact ih (byt_lt h)
theorem stps_add (m n : Nat) : ∀ c, stps (m + n) c = stps n (stps m c) := by
  induction m with
  | zero => intro c; simp [stps]
  | succ m ih => intro c; rw [Nat.succ_add]; exact ih (stp c)
theorem stps_snoc (n : Nat) (c : Nat) : stps (n + 1) c = stp (stps n c) := by rw [stps_add]; rfl
theorem reg_append (a b : List UInt8) : ∀ c, reg c (a ++ b) = reg (reg c a) b := by
  induction a with
  | nil => intro c; rfl
  | cons x a ih => intro c; exact ih (byt c x)
theorem reg_snoc (a : List UInt8) (x : UInt8) (c : Nat) : reg c (a ++ [x]) = byt (reg c a) x := by rw [reg_append]; rfl
theorem mor_lt (s : Nat) (l : List UInt8) : mor s l < 4294967296 := by unfold mor; omega
theorem mor_append {s : Nat} (a b : List UInt8) : mor s (a ++ b) = mor (mor s a) b := by
  unfold mor
  rw [reg_append]
  have := reg_lt a (c := 4294967295 - s) (by omega)
  congr 1
  have e : 4294967295 - (4294967295 - reg (4294967295 - s) a) = reg (4294967295 - s) a := by omega
  rw [e]
theorem mor_nil {s : Nat} (h : s < 4294967296) : mor s [] = s := by unfold mor; rw [reg_nil]; omega

/-- The digits turned. -/
theorem not32 {a : Nat} (h : a < 4294967296) : 4294967295 - a = 4294967295 ^^^ a := by
  have e : (BitVec.allOnes 32 ^^^ BitVec.ofNat 32 a).toNat = (~~~ BitVec.ofNat 32 a).toNat := by rw [BitVec.allOnes_xor]
  rw [BitVec.toNat_xor, BitVec.toNat_not, BitVec.toNat_allOnes, BitVec.toNat_ofNat, Nat.mod_eq_of_lt (by omega)] at e
  simpa using e.symm
theorem xor_mod2 (a b : Nat) : (a ^^^ b) % 2 = (a % 2) ^^^ (b % 2) := Nat.xor_mod_two_pow (n := 1)
theorem xor_div2 (a b : Nat) : (a ^^^ b) / 2 = (a / 2) ^^^ (b / 2) := Nat.xor_div_two_pow (n := 1)
theorem xor4 (a b t : Nat) : (a ^^^ t) ^^^ (b ^^^ t) = a ^^^ b := by
  rw [Nat.xor_assoc, Nat.xor_comm b t, ← Nat.xor_assoc t t b, Nat.xor_self, Nat.zero_xor]
theorem stp_xor (a b : Nat) : stp (a ^^^ b) = stp a ^^^ stp b := by
  unfold stp
  rw [xor_mod2, xor_div2]
  rcases Nat.mod_two_eq_zero_or_one a with h | h <;> rcases Nat.mod_two_eq_zero_or_one b with k | k <;> simp only [h, k]
  · simp
  · simp [Nat.xor_assoc]
  · simp only [Nat.xor_zero, if_true]
    rw [if_neg (by decide), Nat.xor_assoc, Nat.xor_assoc, Nat.xor_comm (b / 2)]
  · rw [Nat.xor_self, if_neg (by decide), if_pos trivial, if_pos trivial, xor4]
theorem stps_xor (n : Nat) : ∀ a b, stps n (a ^^^ b) = stps n a ^^^ stps n b := by
  induction n with
  | zero => intro a b; rfl
  | succ n ih => intro a b; show stps n (stp (a ^^^ b)) = _; rw [stp_xor]; exact ih _ _
theorem stp_two (y : Nat) : stp (2 * y) = y := by
  unfold stp; rw [if_neg (by omega)]; omega
theorem stps_pow (n : Nat) : ∀ y, stps n (2 ^ n * y) = y := by
  induction n with
  | zero => intro y; simp [stps]
  | succ n ih => intro y; show stps n (stp _) = y; rw [Nat.pow_succ, Nat.mul_comm (2 ^ n) 2, Nat.mul_assoc, stp_two]; exact ih y
theorem low8 (x : UInt8) (V : Nat) : x.toNat + 256 * V = x.toNat ^^^ (2 ^ 8 * V) := by
  have h := x.toNat_lt
  have e : x.toNat ^^^ (2 ^ 8 * V) = (2 ^ 8 * V) ||| x.toNat := by
    apply Nat.eq_of_testBit_eq
    intro i
    rw [Nat.testBit_xor, Nat.testBit_or, Nat.testBit_two_pow_mul]
    by_cases hi : i < 8
    · simp [Nat.not_le.2 hi]
    · have : x.toNat.testBit i = false := Nat.testBit_lt_two_pow (Nat.lt_of_lt_of_le h (Nat.pow_le_pow_right (by decide) (by omega : 8 ≤ i)))
      simp [this]
  rw [e, ← Nat.two_pow_add_eq_or_of_lt h]; omega
/-- THE REGISTER: the bytes' value, xor'ed in at once. -/
theorem reg_eq (l : List UInt8) : ∀ c, reg c l = stps (8 * l.length) (c ^^^ vle l) := by
  induction l with
  | nil => intro c; rw [reg_nil, vle, Nat.xor_zero]; rfl
  | cons x l ih =>
    intro c
    have e1 : 8 * (x :: l).length = 8 + 8 * l.length := by simp; omega
    have e2 : stps 8 (c ^^^ vle (x :: l)) = byt c x ^^^ vle l := by
      rw [vle, low8, ← Nat.xor_assoc, stps_xor 8 (c ^^^ x.toNat), stps_pow, byt]
    rw [reg_cons, ih, e1, stps_add, e2]
theorem stp_zero : stp 0 = 0 := by decide
theorem stp_ne {c : Nat} (h : c < 4294967296) (h0 : c ≠ 0) : stp c ≠ 0 := by
  unfold stp
  split
  · intro e
    have e2 : c / 2 = 2197175160 := by
      have := congrArg (· ^^^ 2197175160) e
      simp only [Nat.zero_xor] at this
      rwa [Nat.xor_assoc, Nat.xor_self, Nat.xor_zero] at this
    omega
  · omega
theorem stps_ne (n : Nat) : ∀ {c : Nat}, c < 4294967296 → c ≠ 0 → stps n c ≠ 0 := by
  induction n with
  | zero => intro c _ h; exact h
  | succ n ih => intro c h h0; exact ih (stp_lt h) (stp_ne h h0)
end Go.Proofs.Ytgdjjpnejdedhaa
