/- Plain words on the order of bytes: no program in sight. -/
import Derived.Test.YtbcdmammedabmaaC8
namespace Go.Proofs.Ytbcdmammedabmaa
open Go.RowKit

theorem txb_cons0 {x : UInt8} (l : List UInt8) (h : x.toNat = 0) : txb (x :: l) = 0 :: 255 :: txb l := by
  have e : x = 0 := by rw [← u8_of h]; rfl
  simp [txb, e]
theorem txb_cons1 {x : UInt8} (l : List UInt8) (h : ¬ x.toNat = 0) : txb (x :: l) = x :: txb l := by simp [txb, h]
theorem u8_lt (x y : UInt8) : (x < y) ↔ x.toNat < y.toNat := UInt8.lt_iff_toNat_lt
theorem u8_eq {x y : UInt8} (h : x.toNat = y.toNat) : x = y := UInt8.toNat_inj.1 h
theorem less_cons (x y : UInt8) (l m : List UInt8) : Op.bytesLess (x :: l) (y :: m) = (decide (x < y) || (x == y && Op.bytesLess l m)) := rfl
theorem less_lt {x y : UInt8} (l m : List UInt8) (h : x.toNat < y.toNat) : Op.bytesLess (x :: l) (y :: m) = true := by
  rw [less_cons, decide_eq_true ((u8_lt x y).2 h)]; rfl
theorem less_gt {x y : UInt8} (l m : List UInt8) (h : y.toNat < x.toNat) : Op.bytesLess (x :: l) (y :: m) = false := by
  have h1 : ¬ x < y := fun hh => by have := (u8_lt x y).1 hh; omega
  have h2 : (x == y) = false := by
    apply beq_eq_false_iff_ne.2
    rintro rfl; omega
  rw [less_cons, decide_eq_false h1, h2]; rfl
theorem less_same (x : UInt8) (l m : List UInt8) : Op.bytesLess (x :: l) (x :: m) = Op.bytesLess l m := by
  have h1 : ¬ x < x := fun hh => by have := (u8_lt x x).1 hh; omega
  rw [less_cons, decide_eq_false h1]; simp

/-- Of texts in order, whatever stands behind, the bytes stand as they do. -/
theorem tx_less (s : List UInt8) : ∀ t A B, Op.bytesLess (txb s ++ 0 :: 1 :: A) (txb t ++ 0 :: 1 :: B) = if s = t then Op.bytesLess A B else Op.bytesLess s t := by
  induction s with
  | nil =>
    intro t A B
    cases t with
    | nil => simp [txb, less_same]
    | cons y t =>
      rw [if_neg (by simp)]
      have e : Op.bytesLess [] (y :: t) = true := rfl
      rw [e]
      by_cases hy : y.toNat = 0
      · rw [txb_cons0 t hy]
        show Op.bytesLess (0 :: 1 :: A) (0 :: 255 :: (txb t ++ 0 :: 1 :: B)) = true
        rw [less_same]
        exact less_lt _ _ (by decide)
      · rw [txb_cons1 t hy]
        exact less_lt _ _ (by show 0 < y.toNat; omega)
  | cons x s ih =>
    intro t A B
    cases t with
    | nil =>
      rw [if_neg (by simp)]
      have e : Op.bytesLess (x :: s) [] = false := rfl
      rw [e]
      by_cases hx : x.toNat = 0
      · rw [txb_cons0 s hx]
        show Op.bytesLess (0 :: 255 :: (txb s ++ 0 :: 1 :: A)) (0 :: 1 :: B) = false
        rw [less_same]
        exact less_gt _ _ (by decide)
      · rw [txb_cons1 s hx]
        exact less_gt _ _ (by show 0 < x.toNat; omega)
    | cons y t =>
      rcases Nat.lt_trichotomy x.toNat y.toNat with h | h | h
      · have hne : x :: s ≠ y :: t := by rintro hh; simp at hh; rw [hh.1] at h; omega
        rw [if_neg hne, less_lt s t h]
        by_cases hx : x.toNat = 0
        · rw [txb_cons0 s hx, txb_cons1 t (by omega)]
          exact less_lt _ _ (by show 0 < y.toNat; omega)
        · rw [txb_cons1 s hx, txb_cons1 t (by omega)]
          exact less_lt _ _ h
      · have e := u8_eq h
        subst e
        have e2 : (x :: s = x :: t) ↔ s = t := by simp
        simp only [e2, less_same]
        rw [← ih t A B]
        by_cases hx : x.toNat = 0
        · rw [txb_cons0 s hx, txb_cons0 t hx]
          show Op.bytesLess (0 :: 255 :: (txb s ++ 0 :: 1 :: A)) (0 :: 255 :: (txb t ++ 0 :: 1 :: B)) = _
          rw [less_same, less_same]
        · rw [txb_cons1 s hx, txb_cons1 t hx]
          show Op.bytesLess (x :: (txb s ++ 0 :: 1 :: A)) (x :: (txb t ++ 0 :: 1 :: B)) = _
          rw [less_same]
      · have hne : x :: s ≠ y :: t := by rintro hh; simp at hh; rw [hh.1] at h; omega
        rw [if_neg hne, less_gt s t h]
        by_cases hy : y.toNat = 0
        · rw [txb_cons0 t hy, txb_cons1 s (by omega)]
          exact less_gt _ _ (by show 0 < x.toNat; omega)
        · rw [txb_cons1 t hy, txb_cons1 s (by omega)]
          exact less_gt _ _ h
/-- Texts in order, whatever stands behind, are told from each other. -/
theorem tx_inj (s : List UInt8) : ∀ t A B, txb s ++ 0 :: 1 :: A = txb t ++ 0 :: 1 :: B → s = t ∧ A = B := by
  induction s with
  | nil =>
    intro t A B h
    cases t with
    | nil => simp [txb] at h; exact ⟨rfl, h⟩
    | cons y t =>
      exfalso
      by_cases hy : y.toNat = 0
      · rw [txb_cons0 t hy] at h
        have h2 := (List.cons.inj (List.cons.inj h).2).1
        exact absurd h2 (by decide)
      · rw [txb_cons1 t hy] at h
        have h2 := (List.cons.inj h).1
        rw [← h2] at hy
        exact hy rfl
  | cons x s ih =>
    intro t A B h
    cases t with
    | nil =>
      exfalso
      by_cases hx : x.toNat = 0
      · rw [txb_cons0 s hx] at h
        have h2 := (List.cons.inj (List.cons.inj h).2).1
        exact absurd h2 (by decide)
      · rw [txb_cons1 s hx] at h
        have h2 := (List.cons.inj h).1
        rw [h2] at hx
        exact hx rfl
    | cons y t =>
      by_cases hx : x.toNat = 0
      · by_cases hy : y.toNat = 0
        · rw [txb_cons0 s hx, txb_cons0 t hy] at h
          have h2 := ih t A B (List.cons.inj (List.cons.inj h).2).2
          exact ⟨by rw [u8_eq (hx.trans hy.symm), h2.1], h2.2⟩
        · exfalso
          rw [txb_cons0 s hx, txb_cons1 t hy] at h
          have h2 := (List.cons.inj h).1
          rw [← h2] at hy; exact hy rfl
      · by_cases hy : y.toNat = 0
        · exfalso
          rw [txb_cons1 s hx, txb_cons0 t hy] at h
          have h2 := (List.cons.inj h).1
          rw [h2] at hx; exact hx rfl
        · rw [txb_cons1 s hx, txb_cons1 t hy] at h
          obtain ⟨h1, h2⟩ := List.cons.inj h
          have h3 := ih t A B h2
          exact ⟨by rw [h1, h3.1], h3.2⟩
/-- The value of bytes, the greatest first. -/
def bv : List UInt8 → Nat
  | [] => 0
  | x :: l => x.toNat * 256 ^ l.length + bv l
theorem bv_lt (l : List UInt8) : bv l < 256 ^ l.length := by
  induction l with
  | nil => simp [bv]
  | cons x l ih =>
    have hx := UInt8.toNat_lt x
    have h1 : x.toNat * 256 ^ l.length ≤ 255 * 256 ^ l.length := Nat.mul_le_mul_right _ (by omega)
    have h2 : 256 ^ (l.length + 1) = 256 * 256 ^ l.length := by rw [Nat.pow_succ, Nat.mul_comm]
    simp only [bv, List.length_cons]
    rw [h2]
    generalize 256 ^ l.length = q at *
    omega
theorem less_bv (l : List UInt8) : ∀ m, l.length = m.length → Op.bytesLess l m = decide (bv l < bv m) := by
  induction l with
  | nil => intro m h; cases m with
    | nil => simp [Op.bytesLess, bv]
    | cons y m => simp at h
  | cons x l ih =>
    intro m h
    cases m with
    | nil => simp at h
    | cons y m =>
      simp at h
      have b1 := bv_lt l
      have b2 := bv_lt m
      rw [h] at b1
      have e1 : bv (x :: l) = x.toNat * 256 ^ m.length + bv l := by simp only [bv]; rw [h]
      have e2 : bv (y :: m) = y.toNat * 256 ^ m.length + bv m := rfl
      rw [e1, e2]
      rcases Nat.lt_trichotomy x.toNat y.toNat with g | g | g
      · rw [less_lt l m g]
        have : (x.toNat + 1) * 256 ^ m.length ≤ y.toNat * 256 ^ m.length := Nat.mul_le_mul_right _ g
        rw [Nat.add_mul, Nat.one_mul] at this
        symm; apply decide_eq_true; omega
      · have e := u8_eq g
        subst e
        rw [less_same, ih m h]
        apply decide_eq_decide.2; omega
      · rw [less_gt l m g]
        have : (y.toNat + 1) * 256 ^ m.length ≤ x.toNat * 256 ^ m.length := Nat.mul_le_mul_right _ g
        rw [Nat.add_mul, Nat.one_mul] at this
        symm; apply decide_eq_false; omega
theorem bv_eq (l : List UInt8) : ∀ m, l.length = m.length → bv l = bv m → l = m := by
  induction l with
  | nil => intro m h _; cases m with
    | nil => rfl
    | cons y m => simp at h
  | cons x l ih =>
    intro m h hb
    cases m with
    | nil => simp at h
    | cons y m =>
      simp at h
      have b1 := bv_lt l
      have b2 := bv_lt m
      simp only [bv] at hb
      rw [h] at hb b1
      rcases Nat.lt_trichotomy x.toNat y.toNat with g | g | g
      · exfalso
        have : (x.toNat + 1) * 256 ^ m.length ≤ y.toNat * 256 ^ m.length := Nat.mul_le_mul_right _ g
        rw [Nat.add_mul, Nat.one_mul] at this
        omega
      · have e := u8_eq g
        subst e
        rw [ih m h (by omega)]
      · exfalso
        have : (y.toNat + 1) * 256 ^ m.length ≤ x.toNat * 256 ^ m.length := Nat.mul_le_mul_right _ g
        rw [Nat.add_mul, Nat.one_mul] at this
        omega
theorem bv_nb (v : Int) (h1 : -9223372036854775808 ≤ v) (h2 : v ≤ 9223372036854775807) : (bv (nb v) : Int) = v + 9223372036854775808 := by
  obtain ⟨n, hn⟩ := Int.eq_ofNat_of_zero_le (show 0 ≤ v + 9223372036854775808 by omega)
  have hb : n < 18446744073709551616 := by omega
  unfold nb
  rw [hn]
  have e : eight (n : Int) = [((n / 72057594037927936 % 256 : Nat) : Int), ((n / 281474976710656 % 256 : Nat) : Int), ((n / 1099511627776 % 256 : Nat) : Int), ((n / 4294967296 % 256 : Nat) : Int), ((n / 16777216 % 256 : Nat) : Int), ((n / 65536 % 256 : Nat) : Int), ((n / 256 % 256 : Nat) : Int), ((n % 256 : Nat) : Int)] := by
    unfold eight bytesTo byteOf
    simp [List.range_succ]
  rw [e]
  have f : ∀ k : Nat, k < 256 → (UInt8.ofNat k).toNat = k := fun k hk => by simp [UInt8.toNat_ofNat']; omega
  simp only [List.map_cons, List.map_nil, bv, Int.toNat_natCast, List.length_cons, List.length_nil]
  rw [f _ (by omega), f _ (by omega), f _ (by omega), f _ (by omega), f _ (by omega), f _ (by omega), f _ (by omega), f _ (by omega)]
  omega
end Go.Proofs.Ytbcdmammedabmaa
