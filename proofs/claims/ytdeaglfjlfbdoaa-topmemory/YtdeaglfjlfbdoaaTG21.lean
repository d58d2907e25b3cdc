/- CM KBm V1, joined. -/
import Derived.Test.YtdeaglfjlfbdoaaTG17
import Derived.Test.YtdeaglfjlfbdoaaTG20
/- Texts and numbers go there and back: no program in sight. -/
namespace Go.Proofs.Ytdeaglfjlfbdoaa

theorem rtF_step {x : UInt8} (t acc : List UInt8) (i : Nat) (hx : ¬ x.toNat = 0) (ht : t ≠ []) : rtF (x :: t) acc i = rtF t (acc ++ [x]) (i + 1) := by
  cases t with
  | nil => exact absurd rfl ht
  | cons y t => rw [rtF_cons2, if_neg hx]
theorem rtF_tx (s : List UInt8) : ∀ (m acc : List UInt8) i, rtF (txb s ++ 0 :: 1 :: m) acc i = (acc ++ s, i + (tx s).length, 0) := by
  induction s with
  | nil =>
    intro m acc i
    show rtF (0 :: 1 :: m) acc i = _
    rw [rtF_cons2, if_pos (by decide), if_neg (by decide), if_pos (by decide)]
    simp [tx, txb]
  | cons x s ih =>
    intro m acc i
    have hlen : (tx (x :: s)).length = (if x.toNat = 0 then 2 else 1) + (tx s).length := by
      unfold tx
      by_cases hx : x.toNat = 0
      · rw [txb_cons0 s hx, if_pos hx]; simp; omega
      · rw [txb_cons1 s hx, if_neg hx]; simp; omega
    by_cases hx : x.toNat = 0
    · rw [hlen, if_pos hx, txb_cons0 s hx]
      have ex : x = 0 := by rw [← u8_of hx]; rfl
      show rtF (0 :: 255 :: (txb s ++ 0 :: 1 :: m)) acc i = _
      rw [rtF_cons2, if_pos (by decide), if_pos (by decide), ih, ex]
      simp; omega
    · rw [hlen, if_neg hx, txb_cons1 s hx]
      show rtF (x :: (txb s ++ 0 :: 1 :: m)) acc i = _
      rw [rtF_step _ _ _ hx (by simp), ih]
      simp; omega
theorem foldl_bv (l : List UInt8) : ∀ p : Int, (l.map fun x => (x.toNat : Int)).foldl (fun n x => n * 256 + x) p = p * 256 ^ l.length + (bv l : Int) := by
  induction l with
  | nil => intro p; simp [bv]
  | cons x l ih =>
    intro p
    simp only [List.map_cons, List.foldl_cons]
    rw [ih]
    simp only [bv, List.length_cons]
    have e1 : (((x.toNat * 256 ^ l.length + bv l : Nat)) : Int) = (x.toNat : Int) * 256 ^ l.length + (bv l : Int) := by
      rw [Int.natCast_add, Int.natCast_mul, Int.natCast_pow]; rfl
    rw [e1, Int.pow_succ, Int.add_mul, Int.mul_assoc, Int.mul_comm 256 (256 ^ l.length)]
    omega
theorem rnF_nb (n : Int) (h1 : -9223372036854775808 ≤ n) (h2 : n ≤ 9223372036854775807) (m : List UInt8) : rnF (nb n ++ m) = (n, 8, 0) := by
  have hl := nb_len n
  unfold rnF
  rw [if_neg (by simp; omega)]
  have ht : (nb n ++ m).take 8 = nb n := by rw [List.take_append_of_le_length (by omega), List.take_of_length_le (by omega)]
  rw [ht]
  have hb := foldl_bv (nb n) 0
  have e : beval ((nb n).map fun x => (x.toNat : Int)) = (bv (nb n) : Int) := by
    unfold beval; rw [hb]; simp
  rw [e, bv_nb n h1 h2]
  congr 1
  omega
end Go.Proofs.Ytdeaglfjlfbdoaa

/- Keys go there and back, in one way alone: no program in sight. -/
namespace Go.Proofs.Ytdeaglfjlfbdoaa
open Go.RowKit Go.Joins

theorem pdF_jb (L : List ByteArray) : ∀ (n : Nat) (T : List UInt8) (A : List ByteArray), L.length < n → pdF n (jb L ++ 0 :: T) A = some (A ++ L, T) := by
  induction L with
  | nil =>
    intro n T A h
    cases n with
    | zero => simp at h
    | succ n => show pdF (n + 1) (0 :: T) A = _; rw [pdF, if_pos (by decide)]; simp
  | cons s L ih =>
    intro n T A h
    cases n with
    | zero => simp at h
    | succ n =>
      have e : rtF (tx s.data.toList ++ (jb L ++ 0 :: T)) [] 0 = (s.data.toList, (tx s.data.toList).length, 0) := by
        unfold tx
        simp only [List.append_assoc, List.cons_append, List.nil_append]
        rw [rtF_tx]
        simp [tx]
      rw [jb_cons, List.cons_append, List.append_assoc, pdF, if_neg (by decide), if_pos (by decide), e]
      simp only [if_true, List.drop_left]
      rw [ih n T _ (by simpa using h)]
      have e2 : (⟨s.data.toList.toArray⟩ : ByteArray) = s := by cases s; simp
      rw [e2]; simp
theorem pdF_taken (n : Nat) : ∀ (l : List UInt8) (A D : List ByteArray) (r : List UInt8), pdF n l A = some (D, r) → ∃ D', D = A ++ D' ∧ l = jb D' ++ 0 :: r := by
  induction n with
  | zero => intro l A D r h; simp [pdF] at h
  | succ n ih =>
    intro l A D r h
    cases l with
    | nil => simp [pdF] at h
    | cons x t =>
      rw [pdF] at h
      by_cases h0 : x.toNat = 0
      · rw [if_pos h0] at h
        simp at h
        obtain ⟨rfl, rfl⟩ := h
        have ex : x = 0 := u8_eq h0
        exact ⟨[], by simp, by rw [ex]; rfl⟩
      · rw [if_neg h0] at h
        by_cases h1 : x.toNat = 1
        · rw [if_pos h1] at h
          by_cases hE : (rtF t [] 0).2.2 = 0
          · rw [if_pos hE] at h
            obtain ⟨D', h2, h3⟩ := ih _ _ _ _ h
            have hf := rt_facts (l := t) (S := (rtF t [] 0).1) (N := (rtF t [] 0).2.1) (by rw [← hE])
            have ex : x = 1 := u8_eq h1
            refine ⟨⟨(rtF t [] 0).1.toArray⟩ :: D', by rw [h2]; simp, ?_⟩
            rw [jb_cons, ex, List.cons_append, List.append_assoc, ← h3]
            show 1 :: t = 1 :: (tx (rtF t [] 0).1.toArray.toList ++ _)
            rw [List.toList_toArray, hf.2.2.2, List.take_append_drop]
          · rw [if_neg hE] at h; simp at h
        · rw [if_neg h1] at h; simp at h
theorem rdF_kb (L : List ByteArray) (f g : Int) (h : rightBK L f g = true) : rdF (kb L f g) = some (L, f, g) := by
  obtain ⟨hm, h1, h2, h3, h4⟩ := right_facts h
  have hl := (mayB_iff.1 hm).1
  have hp : pdF 5 (kb L f g) [] = some (L, nb f ++ [UInt8.ofNat g.toNat]) := by
    rw [kb_form, pdF_jb L 5 _ [] (by omega)]; simp
  rw [rdF_some hp, if_pos (by simp [nb_len]), rnF_nb f (by omega) (by omega)]
  have e8 : ((nb f ++ [UInt8.ofNat g.toNat]).getD 8 0) = UInt8.ofNat g.toNat := by
    rw [List.getD_eq_getElem?_getD, List.getElem?_append_right (by rw [nb_len]; omega), nb_len]; rfl
  have e9 : ((UInt8.ofNat g.toNat).toNat : Int) = g := by rw [UInt8.toNat_ofNat']; omega
  rw [e8, e9]
  simp only
  rw [if_pos h]
theorem rdF_taken {l : List UInt8} {D : List ByteArray} {f g : Int} (h : rdF l = some (D, f, g)) : rightBK D f g = true ∧ kb D f g = l := by
  cases hp : pdF 5 l [] with
  | none => rw [rdF_none hp] at h; simp at h
  | some q =>
    obtain ⟨D', r⟩ := q
    rw [rdF_some hp] at h
    by_cases h9 : r.length = 9
    · rw [if_pos h9] at h
      by_cases hr : rightBK D' (rnF r).1 ((r.getD 8 0).toNat : Int) = true
      · rw [if_pos hr] at h
        simp only [Option.some.injEq, Prod.mk.injEq] at h
        obtain ⟨rfl, rfl, rfl⟩ := h
        refine ⟨hr, ?_⟩
        obtain ⟨D2, h2, h3⟩ := pdF_taken _ _ _ _ _ hp
        have e2 : D' = D2 := by simpa using h2
        subst e2
        rw [kb_form, h3]
        congr 2
        have hb := rnF9 h9
        have e4 : nb (rnF r).1 = r.take 8 := by
          refine bv_eq _ _ (by rw [nb_len]; simp; omega) ?_
          have e5 := bv_nb (rnF r).1 hb.2.2.1 hb.2.2.2
          have e6 : (rnF r).1 = (bv (r.take 8) : Int) - 9223372036854775808 := by
            unfold rnF
            rw [if_neg (by omega)]
            simp only
            have hbv := foldl_bv (r.take 8) 0
            unfold beval
            rw [hbv]; simp
          omega
        have e8 : UInt8.ofNat (((r.getD 8 0).toNat : Int)).toNat = r[8]'(by omega) := by
          have : r.getD 8 0 = r[8]'(by omega) := by simp [List.getD, h9]
          rw [this, Int.toNat_natCast]
          exact UInt8.ofNat_toNat ..
        rw [e4, e8]
        have := List.take_succ_eq_append_getElem (l := r) (i := 8) (by omega)
        rw [← this]
        exact List.take_of_length_le (by omega)
      · rw [if_neg hr] at h; simp at h
    · rw [if_neg h9] at h; simp at h
end Go.Proofs.Ytdeaglfjlfbdoaa

/- The sum's mathematics: the register as a natural number, of any length. -/
namespace Go.Proofs.Ytdeaglfjlfbdoaa

/-- One digit leaves the register. -/
def stp (c : Nat) : Nat := if c % 2 = 1 then (c / 2) ^^^ 2197175160 else c / 2
/-- So many digits leave it. -/
def stps : Nat → Nat → Nat
  | 0, c => c
  | n + 1, c => stps n (stp c)
/-- The register behind a byte. -/
def byt (c : Nat) (x : UInt8) : Nat := stps 8 (c ^^^ x.toNat)
/-- The register behind bytes. -/
def reg (c : Nat) : List UInt8 → Nat
  | [] => c
  | x :: l => reg (byt c x) l
theorem reg_nil (c : Nat) : reg c [] = c := rfl
theorem reg_cons (c : Nat) (x : UInt8) (l : List UInt8) : reg c (x :: l) = reg (byt c x) l := rfl
/-- The sum of what goes on. -/
def mor (s : Nat) (l : List UInt8) : Nat := 4294967295 - reg (4294967295 - s) l
/-- The value of bytes, the least one first. -/
def vle : List UInt8 → Nat
  | [] => 0
  | x :: l => x.toNat + 256 * vle l
/-- A number as four bytes, the least one first. -/
def four (n : Nat) : List UInt8 := [UInt8.ofNat n, UInt8.ofNat (n / 256), UInt8.ofNat (n / 65536), UInt8.ofNat (n / 16777216)]

theorem xor_lt32 {a b : Nat} (ha : a < 4294967296) (hb : b < 4294967296) : a ^^^ b < 4294967296 := Nat.xor_lt_two_pow (n := 32) ha hb
theorem stp_lt {c : Nat} (h : c < 4294967296) : stp c < 4294967296 := by
  unfold stp; split
  · exact xor_lt32 (by omega) (by omega)
  · omega
theorem stps_lt (n : Nat) : ∀ {c : Nat}, c < 4294967296 → stps n c < 4294967296 := by
  induction n with
  | zero => intro c h; exact h
  | succ n ih => intro c h; exact ih (stp_lt h)
theorem byt_lt {c : Nat} {x : UInt8} (h : c < 4294967296) : byt c x < 4294967296 := stps_lt 8 (xor_lt32 h (by have := x.toNat_lt; omega))
theorem reg_lt (l : List UInt8) : ∀ {c : Nat}, c < 4294967296 → reg c l < 4294967296 := by
  induction l with
  | nil => intro c h; exact h
  | cons x l ih => intro c h; exact ih (byt_lt h)
theorem stps_add (m n : Nat) : ∀ c, stps (m + n) c = stps n (stps m c) := by
  induction m with
  | zero => intro c; simp [stps]
  | succ m ih => intro c; rw [Nat.succ_add]; exact ih (stp c)
theorem stps_snoc (n : Nat) (c : Nat) : stps (n + 1) c = stp (stps n c) := by rw [stps_add]; rfl
theorem reg_append (a b : List UInt8) : ∀ c, reg c (a ++ b) = reg (reg c a) b := by
  induction a with
  | nil => intro c; rfl
  | cons x a ih => intro c; exact ih (byt c x)
theorem reg_snoc (a : List UInt8) (x : UInt8) (c : Nat) : reg c (a ++ [x]) = byt (reg c a) x := by rw [reg_append]; rfl
theorem mor_lt (s : Nat) (l : List UInt8) : mor s l < 4294967296 := by unfold mor; omega
theorem mor_append {s : Nat} (a b : List UInt8) : mor s (a ++ b) = mor (mor s a) b := by
  unfold mor
  rw [reg_append]
  have := reg_lt a (c := 4294967295 - s) (by omega)
  congr 1
  have e : 4294967295 - (4294967295 - reg (4294967295 - s) a) = reg (4294967295 - s) a := by omega
  rw [e]
theorem mor_nil {s : Nat} (h : s < 4294967296) : mor s [] = s := by unfold mor; rw [reg_nil]; omega

/-- The digits turned. -/
theorem not32 {a : Nat} (h : a < 4294967296) : 4294967295 - a = 4294967295 ^^^ a := by
  have e : (BitVec.allOnes 32 ^^^ BitVec.ofNat 32 a).toNat = (~~~ BitVec.ofNat 32 a).toNat := by rw [BitVec.allOnes_xor]
  rw [BitVec.toNat_xor, BitVec.toNat_not, BitVec.toNat_allOnes, BitVec.toNat_ofNat, Nat.mod_eq_of_lt (by omega)] at e
  simpa using e.symm
theorem xor_mod2 (a b : Nat) : (a ^^^ b) % 2 = (a % 2) ^^^ (b % 2) := Nat.xor_mod_two_pow (n := 1)
theorem xor_div2 (a b : Nat) : (a ^^^ b) / 2 = (a / 2) ^^^ (b / 2) := Nat.xor_div_two_pow (n := 1)
theorem xor4 (a b t : Nat) : (a ^^^ t) ^^^ (b ^^^ t) = a ^^^ b := by
  rw [Nat.xor_assoc, Nat.xor_comm b t, ← Nat.xor_assoc t t b, Nat.xor_self, Nat.zero_xor]
theorem stp_xor (a b : Nat) : stp (a ^^^ b) = stp a ^^^ stp b := by
  unfold stp
  rw [xor_mod2, xor_div2]
  rcases Nat.mod_two_eq_zero_or_one a with h | h <;> rcases Nat.mod_two_eq_zero_or_one b with k | k <;> simp only [h, k]
  · simp
  · simp [Nat.xor_assoc]
  · simp only [Nat.xor_zero, if_true]
    rw [if_neg (by decide), Nat.xor_assoc, Nat.xor_assoc, Nat.xor_comm (b / 2)]
  · rw [Nat.xor_self, if_neg (by decide), if_pos trivial, if_pos trivial, xor4]
theorem stps_xor (n : Nat) : ∀ a b, stps n (a ^^^ b) = stps n a ^^^ stps n b := by
  induction n with
  | zero => intro a b; rfl
  | succ n ih => intro a b; show stps n (stp (a ^^^ b)) = _; rw [stp_xor]; exact ih _ _
theorem stp_two (y : Nat) : stp (2 * y) = y := by
  unfold stp; rw [if_neg (by omega)]; omega
theorem stps_pow (n : Nat) : ∀ y, stps n (2 ^ n * y) = y := by
  induction n with
  | zero => intro y; simp [stps]
  | succ n ih => intro y; show stps n (stp _) = y; rw [Nat.pow_succ, Nat.mul_comm (2 ^ n) 2, Nat.mul_assoc, stp_two]; exact ih y
theorem low8 (x : UInt8) (V : Nat) : x.toNat + 256 * V = x.toNat ^^^ (2 ^ 8 * V) := by
  have h := x.toNat_lt
  have e : x.toNat ^^^ (2 ^ 8 * V) = (2 ^ 8 * V) ||| x.toNat := by
    apply Nat.eq_of_testBit_eq
    intro i
    rw [Nat.testBit_xor, Nat.testBit_or, Nat.testBit_two_pow_mul]
    by_cases hi : i < 8
    · simp [Nat.not_le.2 hi]
    · have : x.toNat.testBit i = false := Nat.testBit_lt_two_pow (Nat.lt_of_lt_of_le h (Nat.pow_le_pow_right (by decide) (by omega : 8 ≤ i)))
      simp [this]
  rw [e, ← Nat.two_pow_add_eq_or_of_lt h]; omega
/-- THE REGISTER: the bytes' value, xor'ed in at once. -/
theorem reg_eq (l : List UInt8) : ∀ c, reg c l = stps (8 * l.length) (c ^^^ vle l) := by
  induction l with
  | nil => intro c; rw [reg_nil, vle, Nat.xor_zero]; rfl
  | cons x l ih =>
    intro c
    have e1 : 8 * (x :: l).length = 8 + 8 * l.length := by simp; omega
    have e2 : stps 8 (c ^^^ vle (x :: l)) = byt c x ^^^ vle l := by
      rw [vle, low8, ← Nat.xor_assoc, stps_xor 8 (c ^^^ x.toNat), stps_pow, byt]
    rw [reg_cons, ih, e1, stps_add, e2]
theorem stp_zero : stp 0 = 0 := by decide
theorem stp_ne {c : Nat} (h : c < 4294967296) (h0 : c ≠ 0) : stp c ≠ 0 := by
  unfold stp
  split
  · intro e
    have e2 : c / 2 = 2197175160 := by
      have := congrArg (· ^^^ 2197175160) e
      simp only [Nat.zero_xor] at this
      rwa [Nat.xor_assoc, Nat.xor_self, Nat.xor_zero] at this
    omega
  · omega
theorem stps_ne (n : Nat) : ∀ {c : Nat}, c < 4294967296 → c ≠ 0 → stps n c ≠ 0 := by
  induction n with
  | zero => intro c _ h; exact h
  | succ n ih => intro c h h0; exact ih (stp_lt h) (stp_ne h h0)
end Go.Proofs.Ytdeaglfjlfbdoaa
