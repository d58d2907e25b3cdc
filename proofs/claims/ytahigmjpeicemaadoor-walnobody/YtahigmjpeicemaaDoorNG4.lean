/- OB C8 C9 CM, joined. -/
import Derived.Test.YtahigmjpeicemaaDoorNG1
import Derived.Test.YtahigmjpeicemaaDoorNG3
import Derived.ProofKit
import Derived.OpenShut
import Derived.Lib.SmallJoins
/- Bytes, as an argument: what the slice reads. -/
namespace Go.Proofs.YtahigmjpeicemaaDoor
open Go.ChangeShapes Go.WideShapes Go.ChangeAt Go.RowKit Go.Joins

theorem cell_block {w : World} {a : Addr} {v : Value} (h : w.cell? a = some v) : a.block < w.heap.size ∧ a.spot = none := by
  unfold World.cell? at h
  rcases Nat.lt_or_ge a.block w.heap.size with hb | hb
  · refine ⟨hb, ?_⟩
    split at h
    · split at h
      · cases h
      · rename_i hs; cases hsp : a.spot with
        | none => rfl
        | some s => rw [hsp] at hs; simp at hs
    · cases h
  · rw [Array.getElem?_eq_none hb] at h; cases h
set_option maxRecDepth 100000 in
theorem openB {H : Type} {enc : TypeId × Value → H} {W : World} {r : Reach} {b0 base : Nat} {spare : Nat → Bool} {held : Bool} {v : Value} {d : DataW H} {p : List MemPlace}
    (hv : Value.okWide Tryd.prog W r b0 28 v) (h : DataW.Trod enc Tryd.prog W base spare held 28 v d p) :
    ∃ l : List UInt8, Reads W v l := by
  obtain ⟨a, len, cap, rfl⟩ := okWide_slice Tryd.underlying28 hv
  obtain ⟨fuel, hf⟩ := h
  rcases open_ints Tryd.underlying28 Tryd.underlying5 (by kernel_rfl) hf with ⟨hcs, _⟩ | ⟨x, l, c, zs, hcs, _, hl, hm, hz, _, hcell, hwz⟩
  · simp [Value.cells] at hcs
    obtain ⟨rfl, rfl, rfl⟩ := hcs
    exact ⟨[], .inl ⟨rfl, _, _, rfl, fun _ => rfl⟩⟩
  · simp [Value.cells] at hcs
    obtain ⟨rfl, rfl, rfl⟩ := hcs
    have hzl : len ≤ zs.length := by rw [hz]; split <;> omega
    rcases Nat.eq_zero_or_pos len with h0 | h0
    · subst h0; exact ⟨[], .inl ⟨rfl, _, _, rfl, fun h => by cases h⟩⟩
    · refine ⟨(zs.take len).map fun z => UInt8.ofNat z.toNat, .inr ?_⟩
      have hlen : ((zs.take len).map fun z => UInt8.ofNat z.toNat).length = len := by simp; omega
      have c0 := hcell 0 (by omega)
      have e0 : x.add 0 = x := by simp [Addr.add]
      rw [e0] at c0
      obtain ⟨hb, hs⟩ := cell_block c0
      obtain ⟨b, off, spot⟩ := x
      simp only at hb hs
      subst hs
      refine ⟨b, off, cap, by rw [hlen], by omega, by omega, hm, hb, fun j hj => ?_⟩
      have hj' : j < len := by omega
      have cj := hcell j (by omega)
      have ea : (⟨b, off, none⟩ : Addr).add j = ⟨b, off + j, none⟩ := by simp [Addr.add]
      rw [ea] at cj
      rw [cj]
      have hzj : j < zs.length := by omega
      have hg : zs.getD j 0 = zs[j] := by simp [List.getD, hzj]
      have hw := bounds_u8 (hwz zs[j] (List.getElem_mem hzj))
      rw [hg]
      have e1 : ((zs.take len).map fun z => UInt8.ofNat z.toNat)[j] = UInt8.ofNat (zs[j]).toNat := by simp
      rw [e1]
      unfold bc
      have e2 : (UInt8.ofNat (zs[j]).toNat).toNat = (zs[j]).toNat := by simp [UInt8.toNat_ofNat']; omega
      rw [e2]
      congr 2
      omega
end Go.Proofs.YtahigmjpeicemaaDoor

/- Plain words on what is read of bytes: no program in sight. -/
namespace Go.Proofs.YtahigmjpeicemaaDoor
open Go.RowKit

theorem u8_of {x : UInt8} {n : Nat} (h : x.toNat = n) : UInt8.ofNat n = x := by rw [← h]; exact UInt8.ofNat_toNat ..
/-- What ReadShort reads, written again, stands there. -/
theorem rsF_ok (l : List UInt8) : ∀ i v V N, rsF l i v = (V, N, 0) → i ≤ 9 → v < 128 ^ i →
    ∃ u c, N = i + c ∧ 1 ≤ c ∧ c ≤ l.length ∧ V = v + 128 ^ i * u ∧ sh u = l.take c ∧ (0 < i → 0 < u) ∧ V < 18446744073709551616 := by
  induction l with
  | nil => intro i v V N h _ _; simp [rsF] at h
  | cons x l ih =>
    intro i v V N h hi hv
    rw [rsF_cons] at h
    have hx : x.toNat < 256 := UInt8.toNat_lt x
    by_cases h9 : i = 9 ∧ 1 < x.toNat
    · rw [if_pos h9] at h; simp at h
    · rw [if_neg h9] at h
      by_cases h128 : 128 ≤ x.toNat
      · rw [if_pos h128] at h
        have hi8 : i ≤ 8 := by omega
        have hp : 128 ^ (i + 1) = 128 * 128 ^ i := by rw [Nat.pow_succ, Nat.mul_comm]
        obtain ⟨u, c, h1, h2, h3, h4, h5, h6, h7⟩ := ih (i + 1) _ V N h (by omega) (by
          have h2 : x.toNat % 128 * 128 ^ i ≤ 127 * 128 ^ i := Nat.mul_le_mul_right _ (by omega)
          generalize 128 ^ i = q at *
          omega)
        have hu := h6 (by omega)
        refine ⟨x.toNat % 128 + 128 * u, c + 1, by omega, by omega, by simp; omega, ?_, ?_, fun _ => by omega, h7⟩
        · rw [h4, hp, Nat.mul_add, Nat.mul_comm (x.toNat % 128)]
          have : 128 ^ i * (128 * u) = 128 * 128 ^ i * u := by rw [← Nat.mul_assoc, Nat.mul_comm (128 ^ i) 128]
          omega
        · rw [sh_hi (by omega), List.take_succ_cons]
          have e1 : (x.toNat % 128 + 128 * u) % 128 + 128 = x.toNat := by omega
          have e2 : (x.toNat % 128 + 128 * u) / 128 = u := by omega
          rw [e1, e2, h5, u8_of rfl]
      · rw [if_neg h128] at h
        by_cases h00 : x.toNat = 0 ∧ 0 < i
        · rw [if_pos h00] at h; simp at h
        · rw [if_neg h00] at h
          simp only [Prod.mk.injEq] at h
          obtain ⟨rfl, rfl, _⟩ := h
          have em : x.toNat % 128 = x.toNat := by omega
          have hf := short_fit x.toNat i hi (by omega) (fun h => by omega)
          have hp := pow128 i hi
          rw [em]
          refine ⟨x.toNat, 1, rfl, by omega, by simp, by rw [Nat.mul_comm], ?_, fun h => by omega, by omega⟩
          rw [sh_lo (by omega), u8_of rfl]; rfl
theorem rsF_bad (l : List UInt8) : ∀ i v, (rsF l i v).2.2 ≠ 0 → (rsF l i v).1 = 0 ∧ (rsF l i v).2.1 = 0 := by
  induction l with
  | nil => intro i v _; exact ⟨rfl, rfl⟩
  | cons x l ih =>
    intro i v h
    rw [rsF_cons] at h ⊢
    split
    · exact ⟨rfl, rfl⟩
    · rename_i h1
      rw [if_neg h1] at h
      split
      · rename_i h2
        rw [if_pos h2] at h
        exact ih _ _ h
      · rename_i h2
        rw [if_neg h2] at h
        split
        · exact ⟨rfl, rfl⟩
        · rename_i h3
          rw [if_neg h3] at h
          exact absurd rfl h
/-- What ReadText reads, written again, stands there. -/
theorem rtF_ok (n : Nat) : ∀ (l acc : List UInt8) i S N, l.length ≤ n → rtF l acc i = (S, N, 0) →
    ∃ s c, N = i + c ∧ 2 ≤ c ∧ c ≤ l.length ∧ S = acc ++ s ∧ tx s = l.take c := by
  induction n with
  | zero =>
    intro l acc i S N hl h
    have : l = [] := List.length_eq_zero_iff.1 (by omega)
    subst this; simp [rtF] at h
  | succ n ih =>
    intro l acc i S N hl h
    match l, hl, h with
    | [], _, h => simp [rtF] at h
    | [x], _, h => rw [rtF_one] at h; simp at h
    | x :: y :: l, hl, h =>
      rw [rtF_cons2] at h
      simp at hl
      by_cases hx : x.toNat = 0
      · rw [if_pos hx] at h
        by_cases hy : y.toNat = 255
        · rw [if_pos hy] at h
          obtain ⟨s, c, h1, h2, h3, h4, h5⟩ := ih l (acc ++ [x]) (i + 2) S N (by omega) h
          refine ⟨x :: s, c + 2, by omega, by omega, by simp; omega, by rw [h4]; simp, ?_⟩
          unfold tx at *
          have ey : y = 255 := by rw [← u8_of hy]; rfl
          have e1 : txb (x :: s) = [x, 255] ++ txb s := by simp [txb, hx]
          rw [e1, List.append_assoc, h5, ← ey]; rfl
        · rw [if_neg hy] at h
          by_cases hy1 : y.toNat = 1
          · rw [if_pos hy1] at h
            simp only [Prod.mk.injEq] at h
            obtain ⟨rfl, rfl, _⟩ := h
            have ex : x = 0 := by rw [← u8_of hx]; rfl
            have ey : y = 1 := by rw [← u8_of hy1]; rfl
            exact ⟨[], 2, rfl, by omega, by simp, by simp, by rw [ex, ey]; rfl⟩
          · rw [if_neg hy1] at h; simp at h
      · rw [if_neg hx] at h
        obtain ⟨s, c, h1, h2, h3, h4, h5⟩ := ih (y :: l) (acc ++ [x]) (i + 1) S N (by simp; omega) h
        refine ⟨x :: s, c + 1, by omega, by omega, by simp at h3 ⊢; omega, by rw [h4]; simp, ?_⟩
        unfold tx at *
        have e1 : txb (x :: s) = [x] ++ txb s := by simp [txb, hx]
        rw [e1, List.append_assoc, h5]; rfl
theorem rtF_bad (n : Nat) : ∀ (l acc : List UInt8) i, l.length ≤ n → (rtF l acc i).2.2 ≠ 0 → (rtF l acc i).1 = [] ∧ (rtF l acc i).2.1 = 0 := by
  induction n with
  | zero =>
    intro l acc i hl _
    have : l = [] := List.length_eq_zero_iff.1 (by omega)
    subst this; exact ⟨rfl, rfl⟩
  | succ n ih =>
    intro l acc i hl h
    match l, hl, h with
    | [], _, _ => exact ⟨rfl, rfl⟩
    | [x], _, _ => exact ⟨rfl, rfl⟩
    | x :: y :: l, hl, h =>
      rw [rtF_cons2] at h ⊢
      simp at hl
      by_cases hx : x.toNat = 0
      · rw [if_pos hx] at h ⊢
        by_cases hy : y.toNat = 255
        · rw [if_pos hy] at h ⊢
          exact ih _ _ _ (by omega) h
        · rw [if_neg hy] at h ⊢
          by_cases hy1 : y.toNat = 1
          · rw [if_pos hy1] at h; exact absurd rfl h
          · rw [if_neg hy1]; exact ⟨rfl, rfl⟩
      · rw [if_neg hx] at h ⊢
        exact ih _ _ _ (by simp; omega) h
end Go.Proofs.YtahigmjpeicemaaDoor

/- Plain words on the order of bytes: no program in sight. -/
namespace Go.Proofs.YtahigmjpeicemaaDoor
open Go.RowKit

theorem txb_cons0 {x : UInt8} (l : List UInt8) (h : x.toNat = 0) : txb (x :: l) = 0 :: 255 :: txb l := by
  have e : x = 0 := by rw [← u8_of h]; rfl
  simp [txb, e]
theorem txb_cons1 {x : UInt8} (l : List UInt8) (h : ¬ x.toNat = 0) : txb (x :: l) = x :: txb l := by simp [txb, h]
theorem u8_lt (x y : UInt8) : (x < y) ↔ x.toNat < y.toNat := UInt8.lt_iff_toNat_lt
theorem u8_eq {x y : UInt8} (h : x.toNat = y.toNat) : x = y := UInt8.toNat_inj.1 h
theorem less_cons (x y : UInt8) (l m : List UInt8) : Op.bytesLess (x :: l) (y :: m) = (decide (x < y) || (x == y && Op.bytesLess l m)) := rfl
theorem less_lt {x y : UInt8} (l m : List UInt8) (h : x.toNat < y.toNat) : Op.bytesLess (x :: l) (y :: m) = true := by
  rw [less_cons, decide_eq_true ((u8_lt x y).2 h)]; rfl
theorem less_gt {x y : UInt8} (l m : List UInt8) (h : y.toNat < x.toNat) : Op.bytesLess (x :: l) (y :: m) = false := by
  have h1 : ¬ x < y := fun hh => by have := (u8_lt x y).1 hh; omega
  have h2 : (x == y) = false := by
    apply beq_eq_false_iff_ne.2
    rintro rfl; omega
  rw [less_cons, decide_eq_false h1, h2]; rfl
theorem less_same (x : UInt8) (l m : List UInt8) : Op.bytesLess (x :: l) (x :: m) = Op.bytesLess l m := by
  have h1 : ¬ x < x := fun hh => by have := (u8_lt x x).1 hh; omega
  rw [less_cons, decide_eq_false h1]; simp

/-- Of texts in order, whatever stands behind, the bytes stand as they do. -/
theorem tx_less (s : List UInt8) : ∀ t A B, Op.bytesLess (txb s ++ 0 :: 1 :: A) (txb t ++ 0 :: 1 :: B) = if s = t then Op.bytesLess A B else Op.bytesLess s t := by
  induction s with
  | nil =>
    intro t A B
    cases t with
    | nil => simp [txb, less_same]
    | cons y t =>
      rw [if_neg (by simp)]
      have e : Op.bytesLess [] (y :: t) = true := rfl
      rw [e]
      by_cases hy : y.toNat = 0
      · rw [txb_cons0 t hy]
        show Op.bytesLess (0 :: 1 :: A) (0 :: 255 :: (txb t ++ 0 :: 1 :: B)) = true
        rw [less_same]
        exact less_lt _ _ (by decide)
      · rw [txb_cons1 t hy]
        exact less_lt _ _ (by show 0 < y.toNat; omega)
  | cons x s ih =>
    intro t A B
    cases t with
    | nil =>
      rw [if_neg (by simp)]
      have e : Op.bytesLess (x :: s) [] = false := rfl
      rw [e]
      by_cases hx : x.toNat = 0
      · rw [txb_cons0 s hx]
        show Op.bytesLess (0 :: 255 :: (txb s ++ 0 :: 1 :: A)) (0 :: 1 :: B) = false
        rw [less_same]
        exact less_gt _ _ (by decide)
      · rw [txb_cons1 s hx]
        exact less_gt _ _ (by show 0 < x.toNat; omega)
    | cons y t =>
      rcases Nat.lt_trichotomy x.toNat y.toNat with h | h | h
      · have hne : x :: s ≠ y :: t := by rintro hh; simp at hh; rw [hh.1] at h; omega
        rw [if_neg hne, less_lt s t h]
        by_cases hx : x.toNat = 0
        · rw [txb_cons0 s hx, txb_cons1 t (by omega)]
          exact less_lt _ _ (by show 0 < y.toNat; omega)
        · rw [txb_cons1 s hx, txb_cons1 t (by omega)]
          exact less_lt _ _ h
      · have e := u8_eq h
        subst e
        have e2 : (x :: s = x :: t) ↔ s = t := by simp
        simp only [e2, less_same]
        rw [← ih t A B]
        by_cases hx : x.toNat = 0
        · rw [txb_cons0 s hx, txb_cons0 t hx]
          show Op.bytesLess (0 :: 255 :: (txb s ++ 0 :: 1 :: A)) (0 :: 255 :: (txb t ++ 0 :: 1 :: B)) = _
          rw [less_same, less_same]
        · rw [txb_cons1 s hx, txb_cons1 t hx]
          show Op.bytesLess (x :: (txb s ++ 0 :: 1 :: A)) (x :: (txb t ++ 0 :: 1 :: B)) = _
          rw [less_same]
      · have hne : x :: s ≠ y :: t := by rintro hh; simp at hh; rw [hh.1] at h; omega
        rw [if_neg hne, less_gt s t h]
        by_cases hy : y.toNat = 0
        · rw [txb_cons0 t hy, txb_cons1 s (by omega)]
          exact less_gt _ _ (by show 0 < x.toNat; omega)
        · rw [txb_cons1 t hy, txb_cons1 s (by omega)]
          exact less_gt _ _ h
/-- Texts in order, whatever stands behind, are told from each other. -/
theorem tx_inj (s : List UInt8) : ∀ t A B, txb s ++ 0 :: 1 :: A = txb t ++ 0 :: 1 :: B → s = t ∧ A = B := by
  induction s with
  | nil =>
    intro t A B h
    cases t with
    | nil => simp [txb] at h; exact ⟨rfl, h⟩
    | cons y t =>
      exfalso
      by_cases hy : y.toNat = 0
      · rw [txb_cons0 t hy] at h
        have h2 := (List.cons.inj (List.cons.inj h).2).1
        exact absurd h2 (by decide)
      · rw [txb_cons1 t hy] at h
        have h2 := (List.cons.inj h).1
        rw [← h2] at hy
        exact hy rfl
  | cons x s ih =>
    intro t A B h
    cases t with
    | nil =>
      exfalso
      by_cases hx : x.toNat = 0
      · rw [txb_cons0 s hx] at h
        have h2 := (List.cons.inj (List.cons.inj h).2).1
        exact absurd h2 (by decide)
      · rw [txb_cons1 s hx] at h
        have h2 := (List.cons.inj h).1
        rw [h2] at hx
        exact hx rfl
    | cons y t =>
      by_cases hx : x.toNat = 0
      · by_cases hy : y.toNat = 0
        · rw [txb_cons0 s hx, txb_cons0 t hy] at h
          have h2 := ih t A B (List.cons.inj (List.cons.inj h).2).2
          exact ⟨by rw [u8_eq (hx.trans hy.symm), h2.1], h2.2⟩
        · exfalso
          rw [txb_cons0 s hx, txb_cons1 t hy] at h
          have h2 := (List.cons.inj h).1
          rw [← h2] at hy; exact hy rfl
      · by_cases hy : y.toNat = 0
        · exfalso
          rw [txb_cons1 s hx, txb_cons0 t hy] at h
          have h2 := (List.cons.inj h).1
          rw [h2] at hx; exact hx rfl
        · rw [txb_cons1 s hx, txb_cons1 t hy] at h
          obtain ⟨h1, h2⟩ := List.cons.inj h
          have h3 := ih t A B h2
          exact ⟨by rw [h1, h3.1], h3.2⟩
/-- The value of bytes, the greatest first. -/
def bv : List UInt8 → Nat
  | [] => 0
  | x :: l => x.toNat * 256 ^ l.length + bv l
theorem bv_lt (l : List UInt8) : bv l < 256 ^ l.length := by
  induction l with
  | nil => simp [bv]
  | cons x l ih =>
    have hx := UInt8.toNat_lt x
    have h1 : x.toNat * 256 ^ l.length ≤ 255 * 256 ^ l.length := Nat.mul_le_mul_right _ (by omega)
    have h2 : 256 ^ (l.length + 1) = 256 * 256 ^ l.length := by rw [Nat.pow_succ, Nat.mul_comm]
    simp only [bv, List.length_cons]
    rw [h2]
    generalize 256 ^ l.length = q at *
    omega
theorem less_bv (l : List UInt8) : ∀ m, l.length = m.length → Op.bytesLess l m = decide (bv l < bv m) := by
  induction l with
  | nil => intro m h; cases m with
    | nil => simp [Op.bytesLess, bv]
    | cons y m => simp at h
  | cons x l ih =>
    intro m h
    cases m with
    | nil => simp at h
    | cons y m =>
      simp at h
      have b1 := bv_lt l
      have b2 := bv_lt m
      rw [h] at b1
      have e1 : bv (x :: l) = x.toNat * 256 ^ m.length + bv l := by simp only [bv]; rw [h]
      have e2 : bv (y :: m) = y.toNat * 256 ^ m.length + bv m := rfl
      rw [e1, e2]
      rcases Nat.lt_trichotomy x.toNat y.toNat with g | g | g
      · rw [less_lt l m g]
        have : (x.toNat + 1) * 256 ^ m.length ≤ y.toNat * 256 ^ m.length := Nat.mul_le_mul_right _ g
        rw [Nat.add_mul, Nat.one_mul] at this
        symm; apply decide_eq_true; omega
      · have e := u8_eq g
        subst e
        rw [less_same, ih m h]
        apply decide_eq_decide.2; omega
      · rw [less_gt l m g]
        have : (y.toNat + 1) * 256 ^ m.length ≤ x.toNat * 256 ^ m.length := Nat.mul_le_mul_right _ g
        rw [Nat.add_mul, Nat.one_mul] at this
        symm; apply decide_eq_false; omega
theorem bv_eq (l : List UInt8) : ∀ m, l.length = m.length → bv l = bv m → l = m := by
  induction l with
  | nil => intro m h _; cases m with
    | nil => rfl
    | cons y m => simp at h
  | cons x l ih =>
    intro m h hb
    cases m with
    | nil => simp at h
    | cons y m =>
      simp at h
      have b1 := bv_lt l
      have b2 := bv_lt m
      simp only [bv] at hb
      rw [h] at hb b1
      rcases Nat.lt_trichotomy x.toNat y.toNat with g | g | g
      · exfalso
        have : (x.toNat + 1) * 256 ^ m.length ≤ y.toNat * 256 ^ m.length := Nat.mul_le_mul_right _ g
        rw [Nat.add_mul, Nat.one_mul] at this
        omega
      · have e := u8_eq g
        subst e
        rw [ih m h (by omega)]
      · exfalso
        have : (y.toNat + 1) * 256 ^ m.length ≤ x.toNat * 256 ^ m.length := Nat.mul_le_mul_right _ g
        rw [Nat.add_mul, Nat.one_mul] at this
        omega
theorem bv_nb (v : Int) (h1 : -9223372036854775808 ≤ v) (h2 : v ≤ 9223372036854775807) : (bv (nb v) : Int) = v + 9223372036854775808 := by
  obtain ⟨n, hn⟩ := Int.eq_ofNat_of_zero_le (show 0 ≤ v + 9223372036854775808 by omega)
  have hb : n < 18446744073709551616 := by omega
  unfold nb
  rw [hn]
  have e : eight (n : Int) = [((n / 72057594037927936 % 256 : Nat) : Int), ((n / 281474976710656 % 256 : Nat) : Int), ((n / 1099511627776 % 256 : Nat) : Int), ((n / 4294967296 % 256 : Nat) : Int), ((n / 16777216 % 256 : Nat) : Int), ((n / 65536 % 256 : Nat) : Int), ((n / 256 % 256 : Nat) : Int), ((n % 256 : Nat) : Int)] := by
    unfold eight bytesTo byteOf
    simp [List.range_succ]
  rw [e]
  have f : ∀ k : Nat, k < 256 → (UInt8.ofNat k).toNat = k := fun k hk => by simp [UInt8.toNat_ofNat']; omega
  simp only [List.map_cons, List.map_nil, bv, Int.toNat_natCast, List.length_cons, List.length_nil]
  rw [f _ (by omega), f _ (by omega), f _ (by omega), f _ (by omega), f _ (by omega), f _ (by omega), f _ (by omega), f _ (by omega)]
  omega
end Go.Proofs.YtahigmjpeicemaaDoor

/- Texts and numbers go there and back: no program in sight. -/
namespace Go.Proofs.YtahigmjpeicemaaDoor

theorem rtF_step {x : UInt8} (t acc : List UInt8) (i : Nat) (hx : ¬ x.toNat = 0) (ht : t ≠ []) : rtF (x :: t) acc i = rtF t (acc ++ [x]) (i + 1) := by
  cases t with
  | nil => exact absurd rfl ht
  | cons y t => rw [rtF_cons2, if_neg hx]
theorem rtF_tx (s : List UInt8) : ∀ (m acc : List UInt8) i, rtF (txb s ++ 0 :: 1 :: m) acc i = (acc ++ s, i + (tx s).length, 0) := by
  induction s with
  | nil =>
    intro m acc i
    show rtF (0 :: 1 :: m) acc i = _
    rw [rtF_cons2, if_pos (by decide), if_neg (by decide), if_pos (by decide)]
    simp [tx, txb]
  | cons x s ih =>
    intro m acc i
    have hlen : (tx (x :: s)).length = (if x.toNat = 0 then 2 else 1) + (tx s).length := by
      unfold tx
      by_cases hx : x.toNat = 0
      · rw [txb_cons0 s hx, if_pos hx]; simp; omega
      · rw [txb_cons1 s hx, if_neg hx]; simp; omega
    by_cases hx : x.toNat = 0
    · rw [hlen, if_pos hx, txb_cons0 s hx]
      have ex : x = 0 := by rw [← u8_of hx]; rfl
      show rtF (0 :: 255 :: (txb s ++ 0 :: 1 :: m)) acc i = _
      rw [rtF_cons2, if_pos (by decide), if_pos (by decide), ih, ex]
      simp; omega
    · rw [hlen, if_neg hx, txb_cons1 s hx]
      show rtF (x :: (txb s ++ 0 :: 1 :: m)) acc i = _
      rw [rtF_step _ _ _ hx (by simp), ih]
      simp; omega
theorem foldl_bv (l : List UInt8) : ∀ p : Int, (l.map fun x => (x.toNat : Int)).foldl (fun n x => n * 256 + x) p = p * 256 ^ l.length + (bv l : Int) := by
  induction l with
  | nil => intro p; simp [bv]
  | cons x l ih =>
    intro p
    simp only [List.map_cons, List.foldl_cons]
    rw [ih]
    simp only [bv, List.length_cons]
    have e1 : (((x.toNat * 256 ^ l.length + bv l : Nat)) : Int) = (x.toNat : Int) * 256 ^ l.length + (bv l : Int) := by
      rw [Int.natCast_add, Int.natCast_mul, Int.natCast_pow]; rfl
    rw [e1, Int.pow_succ, Int.add_mul, Int.mul_assoc, Int.mul_comm 256 (256 ^ l.length)]
    omega
theorem rnF_nb (n : Int) (h1 : -9223372036854775808 ≤ n) (h2 : n ≤ 9223372036854775807) (m : List UInt8) : rnF (nb n ++ m) = (n, 8, 0) := by
  have hl := nb_len n
  unfold rnF
  rw [if_neg (by simp; omega)]
  have ht : (nb n ++ m).take 8 = nb n := by rw [List.take_append_of_le_length (by omega), List.take_of_length_le (by omega)]
  rw [ht]
  have hb := foldl_bv (nb n) 0
  have e : beval ((nb n).map fun x => (x.toNat : Int)) = (bv (nb n) : Int) := by
    unfold beval; rw [hb]; simp
  rw [e, bv_nb n h1 h2]
  congr 1
  omega
end Go.Proofs.YtahigmjpeicemaaDoor
