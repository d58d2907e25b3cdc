/- TN1 TN2 V1 V2, joined. -/
import Derived.Test.YtgjbnampjgpmfaaTB2
import Derived.Test.YtgjbnampjgpmfaaTB6
import Derived.RangeFuncRecord
/- A table that is nil, or that no call made. -/
namespace Go.Proofs.Ytgjbnampjgpmfaa
open Go.RowKit

theorem tlen_nil (w : World) : Calls Try.prog 10 #[.pointer none] w fun e w' => e = .returned (.int .i64 0) ∧ w' = w := by
  go_enter Try.func10, Try.ntmps10
  go_wp2_with fail
  go_ret
  exact ⟨rfl, rfl⟩
theorem tmay_nil (kv : Value) (w : World) : Calls Try.prog 9 #[.pointer none, kv] w fun e w' => e = .returned (.bool false) ∧ w' = w := by
  go_enter Try.func9, Try.ntmps9
  go_wp2_with fail
  go_ret
  exact ⟨rfl, rfl⟩
/-- A table without pieces, filter and count. -/
def ZT (w : World) (B : Nat) : Prop := w.heap[B]? = some (.cells #[.slice none 0 0, .pointer none, .int .i64 0] 30)
theorem tlen_zero (B : Nat) (w : World) (h : ZT w B) : Calls Try.prog 10 #[.pointer (some ⟨B, 0, none⟩)] w fun e w' => e = .returned (.int .i64 0) ∧ w' = w := by
  have z2 : w.cell? ⟨B, 2, none⟩ = some (.int .i64 0) := by unfold ZT at h; simp [World.cell?, h]
  go_enter Try.func10, Try.ntmps10
  go_wp2_with fail
  go_ret
  exact ⟨rfl, rfl⟩
theorem tmay_zero (B : Nat) (kv : Value) (w : World) (h : ZT w B) : Calls Try.prog 9 #[.pointer (some ⟨B, 0, none⟩), kv] w fun e w' => e = .returned (.bool false) ∧ w' = w := by
  have z1 : w.cell? ⟨B, 1, none⟩ = some (.pointer none) := by unfold ZT at h; simp [World.cell?, h]
  go_enter Try.func9, Try.ntmps9
  go_wp2_with fail
  go_ret
  exact ⟨rfl, rfl⟩
theorem tseek_nil (a : Option Addr) (n c : Nat) (m : Int) (w : World) : Calls Try.prog 11 #[.pointer none, .slice a n c, .int .i64 m] w fun e w' => e = .returned (.slice none 0 0) ∧ Below w.heap.size w w' := by
  go_enter Try.func11, Try.ntmps11
  go_wp2_with fail
  go_ret
  exact ⟨rfl, ((Below.refl _ _).alloc (Nat.le_refl _) _).alloc (by simp) _⟩
theorem tall_nil (w : World) : Calls Try.prog 12 #[.pointer none] w fun e w' => e = .returned (.slice none 0 0) ∧ Below w.heap.size w w' := by
  go_enter Try.func12, Try.ntmps12
  go_wp2_with fail
  refine (tlen_nil _).mono ?_
  rintro e w1 ⟨rfl, rfl⟩
  go_wp2_with fail
  refine (tseek_nil _ _ _ _ _).mono ?_
  rintro e w2 ⟨rfl, hb2⟩
  have HB2 : Hid _ := hb2
  clear hb2
  go_wp2_with fail
  go_ret
  exact ⟨rfl, HB2.out⟩
theorem tends_nil (w : World) : Calls Try.prog 8 #[.pointer none] w fun e w' => e = .returned (.tuple #[.slice none 0 0, .slice none 0 0, .bool false]) ∧ Below w.heap.size w w' := by
  go_enter Try.func8, Try.ntmps8
  go_wp2_with fail
  refine (tlen_nil _).mono ?_
  rintro e w1 ⟨rfl, rfl⟩
  go_wp2_with fail
  go_ret3
  exact ⟨rfl, Below.refl _ _⟩
theorem tends_zero (B : Nat) (w : World) (h : ZT w B) : Calls Try.prog 8 #[.pointer (some ⟨B, 0, none⟩)] w fun e w' => e = .returned (.tuple #[.slice none 0 0, .slice none 0 0, .bool false]) ∧ Below w.heap.size w w' := by
  have H : Hid (ZT w B) := h
  clear h
  go_enter Try.func8, Try.ntmps8
  go_wp2_with fail
  refine (tlen_zero B _ H.out).mono ?_
  rintro e w1 ⟨rfl, rfl⟩
  go_wp2_with fail
  go_ret3
  exact ⟨rfl, Below.refl _ _⟩
theorem tget_nil (a : Option Addr) (n c : Nat) (w : World) : Calls Try.prog 7 #[.pointer none, .slice a n c] w fun e w' => e = .returned (.tuple #[agV aZ, .bool false]) ∧ Below w.heap.size w w' := by
  rw [agVZ]
  go_enter Try.func7, Try.ntmps7
  go_wp2_with fail
  refine (tmay_nil _ _).mono ?_
  rintro e w1 ⟨rfl, rfl⟩
  go_wp2_with fail
  exact bodyPost_ret (res_rt rfl _ _ w.heap.size _ rfl (run_loadVar_row _ w.heap.size _ _ _ (0, 0) _ (World.alloc_heap_new _ _) Try.underlying35 rfl (by kernel_rfl))) rfl ⟨rfl, (Below.refl _ _).alloc (Nat.le_refl _) _⟩
theorem tget_zero (B : Nat) (a : Option Addr) (n c : Nat) (w : World) (h : ZT w B) : Calls Try.prog 7 #[.pointer (some ⟨B, 0, none⟩), .slice a n c] w fun e w' => e = .returned (.tuple #[agV aZ, .bool false]) ∧ Below w.heap.size w w' := by
  rw [agVZ]
  have hB := (Array.getElem?_eq_some_iff.1 h).1
  have H1 : Hid (ZT (w.alloc (.cells #[.int .u64 0, .bool false, .int .i64 0, .int .u64 0, .int .i64 0, .int .i64 0] 35)) B) := by
    unfold Hid ZT
    rw [((Below.refl w.heap.size w).alloc (Nat.le_refl _) _).block B hB]; exact h
  clear h
  go_enter Try.func7, Try.ntmps7
  go_wp2_with fail
  refine (tmay_zero B _ _ H1.out).mono ?_
  rintro e w1 ⟨rfl, rfl⟩
  go_wp2_with fail
  exact bodyPost_ret (res_rt rfl _ _ w.heap.size _ rfl (run_loadVar_row _ w.heap.size _ _ _ (0, 0) _ (World.alloc_heap_new _ _) Try.underlying35 rfl (by kernel_rfl))) rfl ⟨rfl, (Below.refl _ _).alloc (Nat.le_refl _) _⟩
theorem search_zero (f : Value) (w : World) : Calls Try.prog 20 #[.int .i64 0, f] w fun e w' => e = .returned (.int .i64 0) ∧ w' = w := by
  go_enter Try.func20, Try.ntmps20
  go_wp2_with fail
  go_loopw [5, 6] (fun i j wr => wr = w ∧ i = .int .i64 0 ∧ j = .int .i64 0) (fun _ _ _ => 0)
  case atStart => exact ⟨rfl, rfl, rfl⟩
  case round =>
    obtain ⟨rfl, rfl, rfl⟩ := hrel
    go_wp2_with fail
    go_ret
    exact ⟨rfl, rfl⟩
theorem first_nil (a : Option Addr) (n c : Nat) (m : Int) (w : World) : Calls Try.prog 23 #[.slice none 0 0, .slice a n c, .int .i64 m] w fun e w' => e = .returned (.slice none 0 0) ∧ Below w.heap.size w w' := by
  go_enter Try.func23, Try.ntmps23
  go_wp2_with fail
  go_loopw [7, 18] (fun o i wr => wr = w ∧ o = .slice none 0 0 ∧ i = .int .i64 0) (fun _ _ _ => 0)
  case atStart => exact ⟨rfl, rfl, rfl⟩
  case round =>
    obtain ⟨rfl, rfl, rfl⟩ := hrel
    go_wp2_with fail
    go_ret
    exact ⟨rfl, Below.refl _ _⟩
set_option maxRecDepth 100000 in
set_option maxHeartbeats 1000000 in
theorem tseek_zero (B : Nat) (a : Option Addr) (n c : Nat) (m : Int) (w : World) (h : ZT w B) : Calls Try.prog 11 #[.pointer (some ⟨B, 0, none⟩), .slice a n c, .int .i64 m] w fun e w' => e = .returned (.slice none 0 0) ∧ Below w.heap.size w w' := by
  have hB := (Array.getElem?_eq_some_iff.1 h).1
  obtain ⟨w1, HW1⟩ := hid_ex ((w.alloc (.cells #[.pointer (some ⟨B, 0, none⟩)] 24)).alloc (.cells #[.slice a n c] 22))
  have HB1 : Hid (Below w.heap.size w w1) := by rw [HW1.out]; exact ((Below.refl _ _).alloc (Nat.le_refl _) _).alloc (by simp) _
  have z0 : w1.cell? ⟨B, 0, none⟩ = some (.slice none 0 0) := by
    have hz : w1.heap[B]? = some (.cells #[.slice none 0 0, .pointer none, .int .i64 0] 30) := (HB1.out.block B hB).trans h
    simp [World.cell?, hz]
  clear h
  go_enter Try.func11, Try.ntmps11
  by_cases g1 : m < 1
  · go_wp2_with fail
    rw [← HW1.out]
    go_ret
    exact ⟨rfl, HB1.out⟩
  · rw [HW1.out] at z0
    go_wp2_with fail
    refine (search_zero _ _).mono ?_
    rintro e w2 ⟨rfl, rfl⟩
    go_wp2_with fail
    go_region_with (first | (go_at_call 23; refine (first_nil _ _ _ _ _).mono ?_; rintro e w2 ⟨rfl, HB2⟩))
    all_goals (go_wp2_with fail; rw [← HW1.out] at HB2; go_ret; exact ⟨rfl, HB1.out.drew.trans (HB2.mono HB1.out.drew.size)⟩)
set_option maxRecDepth 100000 in
theorem tall_zero (B : Nat) (w : World) (h : ZT w B) : Calls Try.prog 12 #[.pointer (some ⟨B, 0, none⟩)] w fun e w' => e = .returned (.slice none 0 0) ∧ Below w.heap.size w w' := by
  have H : Hid (ZT w B) := h
  clear h
  go_enter Try.func12, Try.ntmps12
  go_wp2_with (first | (go_at_call 10; refine (tlen_zero B _ H.out).mono ?_; rintro e w1 ⟨rfl, rfl⟩))
  refine (tseek_zero B _ _ _ _ _ H.out).mono ?_
  rintro e w1 ⟨rfl, HB1⟩
  go_wp2_with fail
  go_ret
  exact ⟨rfl, HB1⟩
end Go.Proofs.Ytgjbnampjgpmfaa

/- What Write does with no entries: mayBe. -/
namespace Go.Proofs.Ytgjbnampjgpmfaa
open Go.RowKit

set_option maxRecDepth 100000 in
theorem mayBe_nil (w : World) : Calls Try.prog 24 #[.slice none 0 0] w fun e w' => e = .returned (.int .i64 0) ∧ Below w.heap.size w w' := by
  go_enter Try.func24, Try.ntmps24
  go_wp2_with fail
  go_loopw [11] (fun i wr => wr = w ∧ i = .int .i64 0) (fun _ _ => 0)
  case atStart => exact ⟨rfl, rfl⟩
  case round =>
    obtain ⟨rfl, rfl⟩ := hrel
    go_wp2_with fail
    go_ret
    exact ⟨rfl, Below.refl _ _⟩
theorem framed_any (v : Value) (w : World) (V E : Value) (N : Nat) (h : Calls Try.prog 30 #[v] w fun e w' => e = .returned (.tuple #[V, E]) ∧ Below N w w') : Calls Try.prog 27 #[v] w fun e w' => e = .returned V ∧ Below N w w' := by
  go_enter Try.func27, Try.ntmps27
  go_wp2_with fail
  refine Calls.mono h ?_
  rintro e w1 ⟨rfl, HB⟩
  go_wp2_with fail
  go_ret
  exact ⟨rfl, HB⟩
end Go.Proofs.Ytgjbnampjgpmfaa

/- The sum's mathematics: the register as a natural number, of any length. -/
namespace Go.Proofs.Ytgjbnampjgpmfaa

/-- One digit leaves the register. -/
def stp (c : Nat) : Nat := if c % 2 = 1 then (c / 2) ^^^ 2197175160 else c / 2
/-- So many digits leave it. -/
def stps : Nat → Nat → Nat
  | 0, c => c
  | n + 1, c => stps n (stp c)
/-- The register behind a byte. -/
def byt (c : Nat) (x : UInt8) : Nat := stps 8 (c ^^^ x.toNat)
/-- The register behind bytes. -/
def reg (c : Nat) : List UInt8 → Nat
  | [] => c
  | x :: l => reg (byt c x) l
theorem reg_nil (c : Nat) : reg c [] = c := rfl
theorem reg_cons (c : Nat) (x : UInt8) (l : List UInt8) : reg c (x :: l) = reg (byt c x) l := rfl
/-- The sum of what goes on. -/
def mor (s : Nat) (l : List UInt8) : Nat := 4294967295 - reg (4294967295 - s) l
/-- The value of bytes, the least one first. -/
def vle : List UInt8 → Nat
  | [] => 0
  | x :: l => x.toNat + 256 * vle l
/-- A number as four bytes, the least one first. -/
def four (n : Nat) : List UInt8 := [UInt8.ofNat n, UInt8.ofNat (n / 256), UInt8.ofNat (n / 65536), UInt8.ofNat (n / 16777216)]

theorem xor_lt32 {a b : Nat} (ha : a < 4294967296) (hb : b < 4294967296) : a ^^^ b < 4294967296 := Nat.xor_lt_two_pow (n := 32) ha hb
theorem stp_lt {c : Nat} (h : c < 4294967296) : stp c < 4294967296 := by
  unfold stp; split
  · exact xor_lt32 (by omega) (by omega)
  · omega
theorem stps_lt (n : Nat) : ∀ {c : Nat}, c < 4294967296 → stps n c < 4294967296 := by
  induction n with
  | zero => intro c h; exact h
  | succ n ih => intro c h; exact ih (stp_lt h)
theorem byt_lt {c : Nat} {x : UInt8} (h : c < 4294967296) : byt c x < 4294967296 := stps_lt 8 (xor_lt32 h (by have := x.toNat_lt; omega))
theorem reg_lt (l : List UInt8) : ∀ {c : Nat}, c < 4294967296 → reg c l < 4294967296 := by
  induction l with
  | nil => intro c h; exact h
  | cons x l ih => intro c h; exact ih (byt_lt h)
theorem stps_add (m n : Nat) : ∀ c, stps (m + n) c = stps n (stps m c) := by
  induction m with
  | zero => intro c; simp [stps]
  | succ m ih => intro c; rw [Nat.succ_add]; exact ih (stp c)
theorem stps_snoc (n : Nat) (c : Nat) : stps (n + 1) c = stp (stps n c) := by rw [stps_add]; rfl
theorem reg_append (a b : List UInt8) : ∀ c, reg c (a ++ b) = reg (reg c a) b := by
  induction a with
  | nil => intro c; rfl
  | cons x a ih => intro c; exact ih (byt c x)
theorem reg_snoc (a : List UInt8) (x : UInt8) (c : Nat) : reg c (a ++ [x]) = byt (reg c a) x := by rw [reg_append]; rfl
theorem mor_lt (s : Nat) (l : List UInt8) : mor s l < 4294967296 := by unfold mor; omega
theorem mor_append {s : Nat} (a b : List UInt8) : mor s (a ++ b) = mor (mor s a) b := by
  unfold mor
  rw [reg_append]
  have := reg_lt a (c := 4294967295 - s) (by omega)
  congr 1
  have e : 4294967295 - (4294967295 - reg (4294967295 - s) a) = reg (4294967295 - s) a := by omega
  rw [e]
theorem mor_nil {s : Nat} (h : s < 4294967296) : mor s [] = s := by unfold mor; rw [reg_nil]; omega

/-- The digits turned. -/
theorem not32 {a : Nat} (h : a < 4294967296) : 4294967295 - a = 4294967295 ^^^ a := by
  have e : (BitVec.allOnes 32 ^^^ BitVec.ofNat 32 a).toNat = (~~~ BitVec.ofNat 32 a).toNat := by rw [BitVec.allOnes_xor]
  rw [BitVec.toNat_xor, BitVec.toNat_not, BitVec.toNat_allOnes, BitVec.toNat_ofNat, Nat.mod_eq_of_lt (by omega)] at e
  simpa using e.symm
theorem xor_mod2 (a b : Nat) : (a ^^^ b) % 2 = (a % 2) ^^^ (b % 2) := Nat.xor_mod_two_pow (n := 1)
theorem xor_div2 (a b : Nat) : (a ^^^ b) / 2 = (a / 2) ^^^ (b / 2) := Nat.xor_div_two_pow (n := 1)
theorem xor4 (a b t : Nat) : (a ^^^ t) ^^^ (b ^^^ t) = a ^^^ b := by
  rw [Nat.xor_assoc, Nat.xor_comm b t, ← Nat.xor_assoc t t b, Nat.xor_self, Nat.zero_xor]
theorem stp_xor (a b : Nat) : stp (a ^^^ b) = stp a ^^^ stp b := by
  unfold stp
  rw [xor_mod2, xor_div2]
  rcases Nat.mod_two_eq_zero_or_one a with h | h <;> rcases Nat.mod_two_eq_zero_or_one b with k | k <;> simp only [h, k]
  · simp
  · simp [Nat.xor_assoc]
  · simp only [Nat.xor_zero, if_true]
    rw [if_neg (by decide), Nat.xor_assoc, Nat.xor_assoc, Nat.xor_comm (b / 2)]
  · rw [Nat.xor_self, if_neg (by decide), if_pos trivial, if_pos trivial, xor4]
theorem stps_xor (n : Nat) : ∀ a b, stps n (a ^^^ b) = stps n a ^^^ stps n b := by
  induction n with
  | zero => intro a b; rfl
  | succ n ih => intro a b; show stps n (stp (a ^^^ b)) = _; rw [stp_xor]; exact ih _ _
theorem stp_two (y : Nat) : stp (2 * y) = y := by
  unfold stp; rw [if_neg (by omega)]; omega
theorem stps_pow (n : Nat) : ∀ y, stps n (2 ^ n * y) = y := by
  induction n with
  | zero => intro y; simp [stps]
  | succ n ih => intro y; show stps n (stp _) = y; rw [Nat.pow_succ, Nat.mul_comm (2 ^ n) 2, Nat.mul_assoc, stp_two]; exact ih y
theorem low8 (x : UInt8) (V : Nat) : x.toNat + 256 * V = x.toNat ^^^ (2 ^ 8 * V) := by
  have h := x.toNat_lt
  have e : x.toNat ^^^ (2 ^ 8 * V) = (2 ^ 8 * V) ||| x.toNat := by
    apply Nat.eq_of_testBit_eq
    intro i
    rw [Nat.testBit_xor, Nat.testBit_or, Nat.testBit_two_pow_mul]
    by_cases hi : i < 8
    · simp [Nat.not_le.2 hi]
    · have : x.toNat.testBit i = false := Nat.testBit_lt_two_pow (Nat.lt_of_lt_of_le h (Nat.pow_le_pow_right (by decide) (by omega : 8 ≤ i)))
      simp [this]
  rw [e, ← Nat.two_pow_add_eq_or_of_lt h]; omega
/-- THE REGISTER: the bytes' value, xor'ed in at once. -/
theorem reg_eq (l : List UInt8) : ∀ c, reg c l = stps (8 * l.length) (c ^^^ vle l) := by
  induction l with
  | nil => intro c; rw [reg_nil, vle, Nat.xor_zero]; rfl
  | cons x l ih =>
    intro c
    have e1 : 8 * (x :: l).length = 8 + 8 * l.length := by simp; omega
    have e2 : stps 8 (c ^^^ vle (x :: l)) = byt c x ^^^ vle l := by
      rw [vle, low8, ← Nat.xor_assoc, stps_xor 8 (c ^^^ x.toNat), stps_pow, byt]
    rw [reg_cons, ih, e1, stps_add, e2]
theorem stp_zero : stp 0 = 0 := by decide
theorem stp_ne {c : Nat} (h : c < 4294967296) (h0 : c ≠ 0) : stp c ≠ 0 := by
  unfold stp
  split
  · intro e
    have e2 : c / 2 = 2197175160 := by
      have := congrArg (· ^^^ 2197175160) e
      simp only [Nat.zero_xor] at this
      rwa [Nat.xor_assoc, Nat.xor_self, Nat.xor_zero] at this
    omega
  · omega
theorem stps_ne (n : Nat) : ∀ {c : Nat}, c < 4294967296 → c ≠ 0 → stps n c ≠ 0 := by
  induction n with
  | zero => intro c _ h; exact h
  | succ n ih => intro c h h0; exact ih (stp_lt h) (stp_ne h h0)
end Go.Proofs.Ytgjbnampjgpmfaa

/- The contracts of crc.More and crc.Sum. -/
namespace Go.Proofs.Ytgjbnampjgpmfaa
open Go.RowKit

theorem x_not {c : Nat} (h : c < 4294967296) : bits .xor .u32 IntKind.u32.max (c : Int) = ((4294967295 - c : Nat) : Int) := by
  have := u32_xor_nat 4294967295 c (by decide) h
  rw [← not32 h] at this
  exact this
theorem x_xor {c d : Nat} (h : c < 4294967296) (hd : d < 4294967296) : bits .xor .u32 (c : Int) (d : Int) = ((c ^^^ d : Nat) : Int) := u32_xor_nat c d h hd
theorem x_and {c : Nat} (h : c < 4294967296) : bits .and .u32 (c : Int) 1 = ((c % 2 : Nat) : Int) := by
  have := u32_and_nat c 1 h (by decide)
  rw [Nat.and_one_is_mod] at this
  exact this
theorem x_turn {c : Nat} (h : c < 4294967296) : bits .xor .u32 ((c : Int) / 2) 2197175160 = ((c / 2 ^^^ 2197175160 : Nat) : Int) := u32_xor_nat (c / 2) 2197175160 (by omega) (by decide)

set_option maxRecDepth 100000 in
set_option maxHeartbeats 1000000 in
theorem more_some (s : Nat) (hs : s < 4294967296) (b off cap : Nat) (l : List UInt8) (hl : l.length ≤ maxLen) (w : World)
    (hc : ∀ j (h : j < l.length), w.cell? ⟨b, off + j, none⟩ = some (bc l[j])) :
    Calls Try.prog 55 #[.int .u32 (s : Int), .slice (some ⟨b, off, none⟩) l.length cap] w fun e w' => e = .returned (.int .u32 (mor s l : Nat)) ∧ w' = w := by
  unfold maxLen at hl
  have x0 := x_not hs
  have HC : Hid (∀ j (h : j < l.length), w.cell? ⟨b, off + j, none⟩ = some (bc l[j])) := hc
  clear hc
  go_enter Try.func55, Try.ntmps55
  go_wp2_with fail
  go_loop [5, 13] (fun r i => ∃ k c : Nat, k ≤ l.length ∧ i = .int .i64 k ∧ c < 4294967296 ∧ r = .int .u32 (c : Int) ∧ Hid (c = reg (4294967295 - s) (l.take k))) (fun _ i => l.length - (intOf i).toNat)
  case atStart => exact ⟨0, _, Nat.zero_le _, rfl, by omega, rfl, rfl⟩
  case round =>
    obtain ⟨k, c, hk, rfl, hcl, rfl, HE⟩ := hrel
    by_cases hlt : k < l.length
    · have hcell := HC.out k hlt
      have hx := x_xor (c := c) (d := l[k].toNat) hcl (by have := l[k].toNat_lt; omega)
      have hxb : l[k].toNat < 256 := l[k].toNat_lt
      unfold bc at hcell
      go_wp2_with fail
      go_loop [5, 21] (fun r i => ∃ m d : Nat, m ≤ 8 ∧ i = .int .i64 m ∧ d < 4294967296 ∧ r = .int .u32 (d : Int) ∧ Hid (d = stps m (c ^^^ l[k].toNat))) (fun _ i => 8 - (intOf i).toNat)
      case atStart => exact ⟨0, _, by omega, rfl, xor_lt32 hcl (by have := l[k].toNat_lt; omega), rfl, rfl⟩
      case round =>
        obtain ⟨m, d, hm, rfl, hd, rfl, HD⟩ := hrel
        by_cases hm8 : m < 8
        · have y0 := x_and hd
          have y1 := x_turn hd
          rcases Nat.mod_two_eq_zero_or_one d with h2 | h2
          · rw [h2] at y0
            have hs2 : stp d = d / 2 := by unfold stp; rw [if_neg (by omega)]
            have HS : Hid (d / 2 = stps (m + 1) (c ^^^ l[k].toNat)) := by unfold Hid; rw [stps_snoc, ← HD.out, hs2]
            clear hs2 h2
            go_wp2_with fail
            go_round
            case rel => exact ⟨m + 1, d / 2, by omega, by go_num, by omega, by go_num, HS⟩
            case measure => simp [intOf]; omega
          · rw [h2] at y0
            have hs2 : stp d = d / 2 ^^^ 2197175160 := by unfold stp; rw [if_pos h2]
            have HS : Hid (d / 2 ^^^ 2197175160 = stps (m + 1) (c ^^^ l[k].toNat)) := by unfold Hid; rw [stps_snoc, ← HD.out, hs2]
            have hlt2 := xor_lt32 (a := d / 2) (b := 2197175160) (by omega) (by omega)
            clear hs2 h2
            go_wp2_with fail
            go_round
            case rel => exact ⟨m + 1, d / 2 ^^^ 2197175160, by omega, by go_num, hlt2, rfl, HS⟩
            case measure => simp [intOf]; omega
        · have HS : Hid (d = reg (4294967295 - s) (l.take (k + 1))) := by
            unfold Hid
            have e8 : m = 8 := by omega
            rw [List.take_succ_eq_append_getElem hlt, reg_snoc, ← HE.out, HD.out, e8]
            rfl
          go_wp2_with fail
          go_round
          case rel => exact ⟨k + 1, d, by omega, by go_num, hd, rfl, HS⟩
          case measure => simp [intOf]; omega
    · have hkl : k = l.length := by omega
      have x1 := x_not hcl
      have HS : Hid (4294967295 - c = mor s l) := by
        unfold Hid mor
        rw [HE.out, hkl, List.take_length]
      clear hkl
      go_wp2_with fail
      go_ret
      exact ⟨by rw [HS.out]; rfl, rfl⟩
theorem more_none (s : Nat) (hs : s < 4294967296) (a : Option Addr) (cap : Nat) (w : World) :
    Calls Try.prog 55 #[.int .u32 (s : Int), .slice a 0 cap] w fun e w' => e = .returned (.int .u32 (mor s [] : Nat)) ∧ w' = w := by
  have x0 := x_not hs
  have x1 := x_not (c := 4294967295 - s) (by omega)
  have HS : Hid (4294967295 - (4294967295 - s) = mor s []) := rfl
  go_enter Try.func55, Try.ntmps55
  go_wp2_with fail
  go_loop [5, 13] (fun r i => i = .int .i64 0 ∧ r = .int .u32 ((4294967295 - s : Nat) : Int)) (fun _ _ => 0)
  case atStart => exact ⟨rfl, rfl⟩
  case round =>
    obtain ⟨rfl, rfl⟩ := hrel
    go_wp2_with fail
    go_ret
    exact ⟨by rw [HS.out]; rfl, rfl⟩
theorem more_any (s : Nat) (hs : s < 4294967296) (v : Value) (l : List UInt8) (w : World) (h : Reads w v l) :
    Calls Try.prog 55 #[.int .u32 (s : Int), v] w fun e w' => e = .returned (.int .u32 (mor s l : Nat)) ∧ w' = w := by
  rcases h with ⟨rfl, a, cap, rfl, _⟩ | ⟨b, off, cap, rfl, h2, h3, h4, h5, h6⟩
  · exact more_none s hs a cap w
  · exact more_some s hs b off cap l (by omega) w h6
theorem sum_any (v : Value) (l : List UInt8) (w : World) (h : Reads w v l) :
    Calls Try.prog 46 #[v] w fun e w' => e = .returned (.int .u32 (mor 0 l : Nat)) ∧ w' = w := by
  obtain ⟨a, cap, rfl, _⟩ := h.form
  go_enter Try.func46, Try.ntmps46
  go_wp2_with fail
  refine (more_any 0 (by decide) _ l _ h).mono ?_
  rintro e w' ⟨rfl, hw⟩
  subst w'
  clear h
  go_wp2_with fail
  go_ret
  exact ⟨rfl, rfl⟩
end Go.Proofs.Ytgjbnampjgpmfaa
