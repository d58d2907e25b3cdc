/- Plain words on the order of bytes: no program in sight. -/
import Derived.Test.YtldbglkapopbiaaRows
import Derived.WalkKit
import Derived.Laws.Strings
namespace Go.Proofs.Ytldbglkapopbiaa
open Go.RowKit

theorem u8_lt (x y : UInt8) : (x < y) ↔ x.toNat < y.toNat := UInt8.lt_iff_toNat_lt
theorem u8_eq {x y : UInt8} (h : x.toNat = y.toNat) : x = y := UInt8.toNat_inj.1 h
theorem less_cons (x y : UInt8) (l m : List UInt8) : Op.bytesLess (x :: l) (y :: m) = (decide (x < y) || (x == y && Op.bytesLess l m)) := rfl
theorem less_lt {x y : UInt8} (l m : List UInt8) (h : x.toNat < y.toNat) : Op.bytesLess (x :: l) (y :: m) = true := by
  rw [less_cons, decide_eq_true ((u8_lt x y).2 h)]; rfl
theorem less_gt {x y : UInt8} (l m : List UInt8) (h : y.toNat < x.toNat) : Op.bytesLess (x :: l) (y :: m) = false := by
  have h1 : ¬ x < y := fun hh => by have := (u8_lt x y).1 hh; omega
  have h2 : (x == y) = false := by
    apply beq_eq_false_iff_ne.2
    rintro rfl; omega
  rw [less_cons, decide_eq_false h1, h2]; rfl
theorem less_same (x : UInt8) (l m : List UInt8) : Op.bytesLess (x :: l) (x :: m) = Op.bytesLess l m := by
  have h1 : ¬ x < x := fun hh => by have := (u8_lt x x).1 hh; omega
  rw [less_cons, decide_eq_false h1]; simp

/-- The value of bytes, the greatest first. -/
def bv : List UInt8 → Nat
  | [] => 0
  | x :: l => x.toNat * 256 ^ l.length + bv l
theorem bv_lt (l : List UInt8) : bv l < 256 ^ l.length := by
  induction l with
  | nil => simp [bv]
  | cons x l ih =>
    have hx := UInt8.toNat_lt x
    have h1 : x.toNat * 256 ^ l.length ≤ 255 * 256 ^ l.length := Nat.mul_le_mul_right _ (by omega)
    have h2 : 256 ^ (l.length + 1) = 256 * 256 ^ l.length := by rw [Nat.pow_succ, Nat.mul_comm]
    simp only [bv, List.length_cons]
    rw [h2]
    generalize 256 ^ l.length = q at *
    omega
theorem less_bv (l : List UInt8) : ∀ m, l.length = m.length → Op.bytesLess l m = decide (bv l < bv m) := by
  induction l with
  | nil => intro m h; cases m with
    | nil => simp [Op.bytesLess, bv]
    | cons y m => simp at h
  | cons x l ih =>
    intro m h
    cases m with
    | nil => simp at h
    | cons y m =>
      simp at h
      have b1 := bv_lt l
      have b2 := bv_lt m
      rw [h] at b1
      have e1 : bv (x :: l) = x.toNat * 256 ^ m.length + bv l := by simp only [bv]; rw [h]
      have e2 : bv (y :: m) = y.toNat * 256 ^ m.length + bv m := rfl
      rw [e1, e2]
      rcases Nat.lt_trichotomy x.toNat y.toNat with g | g | g
      · rw [less_lt l m g]
        have : (x.toNat + 1) * 256 ^ m.length ≤ y.toNat * 256 ^ m.length := Nat.mul_le_mul_right _ g
        rw [Nat.add_mul, Nat.one_mul] at this
        symm; apply decide_eq_true; omega
      · have e := u8_eq g
        subst e
        rw [less_same, ih m h]
        apply decide_eq_decide.2; omega
      · rw [less_gt l m g]
        have : (y.toNat + 1) * 256 ^ m.length ≤ x.toNat * 256 ^ m.length := Nat.mul_le_mul_right _ g
        rw [Nat.add_mul, Nat.one_mul] at this
        symm; apply decide_eq_false; omega
theorem bv_eq (l : List UInt8) : ∀ m, l.length = m.length → bv l = bv m → l = m := by
  induction l with
  | nil => intro m h _; cases m with
    | nil => rfl
    | cons y m => simp at h
  | cons x l ih =>
    intro m h hb
    cases m with
    | nil => simp at h
    | cons y m =>
      simp at h
      have b1 := bv_lt l
      have b2 := bv_lt m
      simp only [bv] at hb
      rw [h] at hb b1
      rcases Nat.lt_trichotomy x.toNat y.toNat with g | g | g
      · exfalso
        have : (x.toNat + 1) * 256 ^ m.length ≤ y.toNat * 256 ^ m.length := Nat.mul_le_mul_right _ g
        rw [Nat.add_mul, Nat.one_mul] at this
        omega
      · have e := u8_eq g
        subst e
        rw [ih m h (by omega)]
      · exfalso
        have : (y.toNat + 1) * 256 ^ m.length ≤ x.toNat * 256 ^ m.length := Nat.mul_le_mul_right _ g
        rw [Nat.add_mul, Nat.one_mul] at this
        omega
theorem less_irr (l : List UInt8) : Op.bytesLess l l = false := by
  induction l with
  | nil => rfl
  | cons x l ih => rw [less_same]; exact ih
end Go.Proofs.Ytldbglkapopbiaa
