/- C5 C6 OB C8 C9, joined. -/
import Derived.Test.YtegcomopcoapjaaGreatDoorTG1
import Derived.Test.YtegcomopcoapjaaGreatDoorTG2
import Derived.Laws.BitsAllLaws
import Derived.ProofKit
import Derived.OpenShut
import Derived.Lib.SmallJoins
/- The contracts of code.Number and ReadNumber. -/
namespace Go.Proofs.YtegcomopcoapjaaGreatDoor
open Go.RowKit

theorem xor_top (a : Nat) (ha : a < 18446744073709551616) : a ^^^ 9223372036854775808 = (a + 9223372036854775808) % 18446744073709551616 := by
  have e1 : (9223372036854775808 : Nat) = 2 ^ 63 := by decide
  have e2 : (18446744073709551616 : Nat) = 2 ^ 64 := by decide
  rw [e1, e2, Nat.add_comm a]
  rw [e2] at ha
  apply Nat.eq_of_testBit_eq
  intro j
  rw [Nat.testBit_xor, Nat.testBit_mod_two_pow, Nat.testBit_two_pow]
  rcases Nat.lt_trichotomy j 63 with h | h | h
  · rw [Nat.testBit_two_pow_add_gt h]
    have h1 : decide (j < 64) = true := by simp; omega
    have h2 : decide (63 = j) = false := by simp; omega
    rw [h1, h2]; simp
  · subst h
    rw [Nat.testBit_two_pow_add_eq]; simp
  · have h1 : decide (j < 64) = false := by simp; omega
    have h2 : decide (63 = j) = false := by simp; omega
    have h3 : a.testBit j = false := Nat.testBit_lt_two_pow (Nat.lt_of_lt_of_le ha (Nat.pow_le_pow_right (by omega) (by omega)))
    rw [h1, h2, h3]; simp
theorem bits_top (v : Int) (h1 : -9223372036854775808 ≤ v) (h2 : v ≤ 9223372036854775807) : bits .xor .u64 (IntKind.u64.wrap v) 9223372036854775808 = v + 9223372036854775808 := by
  rw [IntKind.wrap_u64]
  obtain ⟨a, ha⟩ := Int.eq_ofNat_of_zero_le (show 0 ≤ v % 18446744073709551616 by omega)
  rw [ha]
  have e : (9223372036854775808 : Int) = ((9223372036854775808 : Nat) : Int) := rfl
  rw [e, bits_xor_u64_nat a _ (by omega) (by omega), xor_top a (by omega)]
  omega
theorem bits_topn (n : Int) (h1 : 0 ≤ n) (h2 : n ≤ 18446744073709551615) : IntKind.i64.wrap (bits .xor .u64 n 9223372036854775808) = n - 9223372036854775808 := by
  obtain ⟨a, ha⟩ := Int.eq_ofNat_of_zero_le h1
  subst ha
  have e : (9223372036854775808 : Int) = ((9223372036854775808 : Nat) : Int) := rfl
  rw [e, bits_xor_u64_nat a _ (by omega) (by omega), xor_top a (by omega), IntKind.wrap_i64]
  omega

/-- The eight bytes of a number in order. -/
def nb (v : Int) : List UInt8 := (eight (v + 9223372036854775808)).map fun z => UInt8.ofNat z.toNat
theorem nb_len (v : Int) : (nb v).length = 8 := by simp [nb, eight_len]
theorem byteOf_bd (x : Int) (i : Nat) : 0 ≤ byteOf x i ∧ byteOf x i ≤ 255 := by unfold byteOf; omega
theorem nb_cells (v : Int) : (eight (v + 9223372036854775808)).map (Value.int .u8) = (nb v).map bc := by
  unfold nb
  rw [List.map_map]
  apply List.map_congr_left
  intro z hz
  have hb : 0 ≤ z ∧ z ≤ 255 := by
    unfold eight bytesTo at hz
    obtain ⟨j, _, rfl⟩ := List.mem_map.1 hz
    exact byteOf_bd _ _
  obtain ⟨a, rfl⟩ := Int.eq_ofNat_of_zero_le hb.1
  show Value.int .u8 (a : Int) = bc (UInt8.ofNat a)
  rw [bc_of (by omega)]

set_option maxRecDepth 100000 in
set_option maxHeartbeats 1000000 in
theorem number_any (v : Int) (h1 : -9223372036854775808 ≤ v) (h2 : v ≤ 9223372036854775807) (w : World) :
    Calls Tryz.prog 42 #[.int .i64 v] w fun e w' => ∃ x, e = .returned x ∧ w'.ownsRow w.heap.size 5 1 x 8 ((nb v).map bc) ∧ Below w.heap.size w w' := by
  have ht := bits_top v h1 h2
  have HB : Hid (0 ≤ v + 9223372036854775808 ∧ v + 9223372036854775808 < 18446744073709551616) := by unfold Hid; omega
  clear h1 h2
  go_enter Tryz.func42, Tryz.ntmps42
  go_wp2_with fail
  refine (word1 _ (v + 9223372036854775808) HB.out _ (by simp) (by simp [go_sem])).mono ?_
  rintro e w1 ⟨x, rfl, hown, hb⟩
  rw [nb_cells] at hown
  have HO : Hid (w1.ownsRow w.heap.size 5 1 x 8 ((nb v).map bc)) := own_mono hown (by simp)
  have HBL : Hid (Below w.heap.size w w1) := ((Below.refl _ _).alloc (Nat.le_refl _) _).trans (hb.mono (by simp))
  clear hown hb
  go_wp2_with fail
  go_ret
  exact ⟨_, rfl, HO.out, HBL.out⟩

/-- What ReadNumber tells. -/
def rnF (l : List UInt8) : Int × Int × Int := if l.length < 8 then (0, 0, 10) else (beval ((l.take 8).map fun x => (x.toNat : Int)) - 9223372036854775808, 8, 0)
theorem beval8 (zs : List Int) (hl : zs.length = 8) (hz : ∀ x ∈ zs, 0 ≤ x ∧ x ≤ 255) : 0 ≤ beval zs ∧ beval zs ≤ 18446744073709551615 := by
  have h := beval_bd zs hz 8
  rw [List.take_of_length_le (by omega)] at h
  have e : (256 : Int) ^ 8 = 18446744073709551616 := by decide
  rw [e] at h
  omega
set_option maxRecDepth 100000 in
set_option maxHeartbeats 1000000 in
theorem readNumber_any (v : Value) (l : List UInt8) (w : World) (h : Reads w v l) :
    Calls Tryz.prog 65 #[v] w fun e w' => e = .returned (.tuple #[.int .i64 (rnF l).1, .int .i64 (rnF l).2.1, .int .i64 (rnF l).2.2]) ∧ Below w.heap.size w w' := by
  by_cases h8 : l.length < 8
  · have e : rnF l = (0, 0, 10) := by unfold rnF; rw [if_pos h8]
    rw [e]
    obtain ⟨a, cap, rfl, _⟩ := h.form
    have i1 : (l.length : Int) < 8 := by omega
    clear h e
    go_enter Tryz.func65, Tryz.ntmps65
    go_wp2_with fail
    go_ret3
    exact ⟨rfl, Below.refl _ _⟩
  · have e : rnF l = (beval ((l.take 8).map fun x => (x.toNat : Int)) - 9223372036854775808, 8, 0) := by unfold rnF; rw [if_neg h8]
    rw [e]
    rcases h with ⟨rfl, a, cap, rfl, _⟩ | ⟨b, off, cap, rfl, g2, g3, g4, g5, g6⟩
    · simp at h8
    have hlen : ((l.take 8).map fun x => (x.toNat : Int)).length = 8 := by simp; omega
    have hz : ∀ x ∈ ((l.take 8).map fun x => (x.toNat : Int)), 0 ≤ x ∧ x ≤ 255 := by
      intro x hx
      obtain ⟨y, _, rfl⟩ := List.mem_map.1 hx
      have := UInt8.toNat_lt y
      omega
    have hcc : ∀ i, i < 8 → w.cell? ⟨b, off + i, none⟩ = some (.int .u8 (((l.take 8).map fun x => (x.toNat : Int)).getD i 0)) := by
      intro i hi
      rw [g6 i (by omega)]
      unfold bc
      have e : ((l.take 8).map fun x => (x.toNat : Int)).getD i 0 = (l[i]'(by omega)).toNat := by
        have hl' : i < l.length := by omega
        simp [hi, List.getElem?_eq_getElem hl']
      rw [e]
    have hbe := beval8 _ hlen hz
    have ht := bits_topn _ hbe.1 hbe.2
    have HR : Hid (∀ cap w', w'.cell? = w.cell? → Calls Tryz.prog 75 #[.slice (some ⟨b, off, none⟩) 8 cap] w' fun e w2 => e = .returned (.int .u64 (beval ((l.take 8).map fun x => (x.toNat : Int)))) ∧ w2 = w') := by
      intro cap w' hw'
      exact wordRead_any b off cap _ hlen hz w' (by intro i hi; rw [hw']; exact hcc i hi)
    clear e hcc hz hlen hbe
    generalize beval ((l.take 8).map fun x => (x.toNat : Int)) = n at *
    have i1 : ¬ (l.length : Int) < 8 := by omega
    have i2 : (8 : Int) ≤ (cap : Int) := by omega
    have i3 : 8 ≤ cap := by omega
    clear g6 h8
    go_enter Tryz.func65, Tryz.ntmps65
    go_wp2_with fail
    refine (HR.out _ _ rfl).mono ?_
    rintro e w1 ⟨rfl, hw1⟩
    subst w1
    go_wp2_with fail
    go_ret3
    exact ⟨rfl, Below.refl _ _⟩
end Go.Proofs.YtegcomopcoapjaaGreatDoor

/- What the fixed calls of layer 4's 'alive' come to: true. -/
namespace Go.Proofs.YtegcomopcoapjaaGreatDoor
open Go.RowKit

end Go.Proofs.YtegcomopcoapjaaGreatDoor

/- Bytes, as an argument: what the slice reads. -/
namespace Go.Proofs.YtegcomopcoapjaaGreatDoor
open Go.ChangeShapes Go.WideShapes Go.ChangeAt Go.RowKit Go.Joins

theorem cell_block {w : World} {a : Addr} {v : Value} (h : w.cell? a = some v) : a.block < w.heap.size ∧ a.spot = none := by
  unfold World.cell? at h
  rcases Nat.lt_or_ge a.block w.heap.size with hb | hb
  · refine ⟨hb, ?_⟩
    split at h
    · split at h
      · cases h
      · rename_i hs; cases hsp : a.spot with
        | none => rfl
        | some s => rw [hsp] at hs; simp at hs
    · cases h
  · rw [Array.getElem?_eq_none hb] at h; cases h
set_option maxRecDepth 100000 in
theorem openB {H : Type} {enc : TypeId × Value → H} {W : World} {r : Reach} {b0 base : Nat} {spare : Nat → Bool} {held : Bool} {v : Value} {d : DataW H} {p : List MemPlace}
    (hv : Value.okWide Tryz.prog W r b0 61 v) (h : DataW.Trod enc Tryz.prog W base spare held 61 v d p) :
    ∃ l : List UInt8, Reads W v l := by
  obtain ⟨a, len, cap, rfl⟩ := okWide_slice Tryz.underlying61 hv
  obtain ⟨fuel, hf⟩ := h
  rcases open_ints Tryz.underlying61 Tryz.underlying5 (by kernel_rfl) hf with ⟨hcs, _⟩ | ⟨x, l, c, zs, hcs, _, hl, hm, hz, _, hcell, hwz⟩
  · simp [Value.cells] at hcs
    obtain ⟨rfl, rfl, rfl⟩ := hcs
    exact ⟨[], .inl ⟨rfl, _, _, rfl, fun _ => rfl⟩⟩
  · simp [Value.cells] at hcs
    obtain ⟨rfl, rfl, rfl⟩ := hcs
    have hzl : len ≤ zs.length := by rw [hz]; split <;> omega
    rcases Nat.eq_zero_or_pos len with h0 | h0
    · subst h0; exact ⟨[], .inl ⟨rfl, _, _, rfl, fun h => by cases h⟩⟩
    · refine ⟨(zs.take len).map fun z => UInt8.ofNat z.toNat, .inr ?_⟩
      have hlen : ((zs.take len).map fun z => UInt8.ofNat z.toNat).length = len := by simp; omega
      have c0 := hcell 0 (by omega)
      have e0 : x.add 0 = x := by simp [Addr.add]
      rw [e0] at c0
      obtain ⟨hb, hs⟩ := cell_block c0
      obtain ⟨b, off, spot⟩ := x
      simp only at hb hs
      subst hs
      refine ⟨b, off, cap, by rw [hlen], by omega, by omega, hm, hb, fun j hj => ?_⟩
      have hj' : j < len := by omega
      have cj := hcell j (by omega)
      have ea : (⟨b, off, none⟩ : Addr).add j = ⟨b, off + j, none⟩ := by simp [Addr.add]
      rw [ea] at cj
      rw [cj]
      have hzj : j < zs.length := by omega
      have hg : zs.getD j 0 = zs[j] := by simp [List.getD, hzj]
      have hw := bounds_u8 (hwz zs[j] (List.getElem_mem hzj))
      rw [hg]
      have e1 : ((zs.take len).map fun z => UInt8.ofNat z.toNat)[j] = UInt8.ofNat (zs[j]).toNat := by simp
      rw [e1]
      unfold bc
      have e2 : (UInt8.ofNat (zs[j]).toNat).toNat = (zs[j]).toNat := by simp [UInt8.toNat_ofNat']; omega
      rw [e2]
      congr 2
      omega
end Go.Proofs.YtegcomopcoapjaaGreatDoor

/- Plain words on what is read of bytes: no program in sight. -/
namespace Go.Proofs.YtegcomopcoapjaaGreatDoor
open Go.RowKit

theorem u8_of {x : UInt8} {n : Nat} (h : x.toNat = n) : UInt8.ofNat n = x := by rw [← h]; exact UInt8.ofNat_toNat ..
/-- What ReadShort reads, written again, stands there. -/
theorem rsF_ok (l : List UInt8) : ∀ i v V N, rsF l i v = (V, N, 0) → i ≤ 9 → v < 128 ^ i →
    ∃ u c, N = i + c ∧ 1 ≤ c ∧ c ≤ l.length ∧ V = v + 128 ^ i * u ∧ sh u = l.take c ∧ (0 < i → 0 < u) ∧ V < 18446744073709551616 := by
  induction l with
  | nil => intro i v V N h _ _; simp [rsF] at h
  | cons x l ih =>
    intro i v V N h hi hv
    rw [rsF_cons] at h
    have hx : x.toNat < 256 := UInt8.toNat_lt x
    by_cases h9 : i = 9 ∧ 1 < x.toNat
    · rw [if_pos h9] at h; simp at h
    · rw [if_neg h9] at h
      by_cases h128 : 128 ≤ x.toNat
      · rw [if_pos h128] at h
        have hi8 : i ≤ 8 := by omega
        have hp : 128 ^ (i + 1) = 128 * 128 ^ i := by rw [Nat.pow_succ, Nat.mul_comm]
        obtain ⟨u, c, h1, h2, h3, h4, h5, h6, h7⟩ := ih (i + 1) _ V N h (by omega) (by
          have h2 : x.toNat % 128 * 128 ^ i ≤ 127 * 128 ^ i := Nat.mul_le_mul_right _ (by omega)
          generalize 128 ^ i = q at *
          omega)
        have hu := h6 (by omega)
        refine ⟨x.toNat % 128 + 128 * u, c + 1, by omega, by omega, by simp; omega, ?_, ?_, fun _ => by omega, h7⟩
        · rw [h4, hp, Nat.mul_add, Nat.mul_comm (x.toNat % 128)]
          have : 128 ^ i * (128 * u) = 128 * 128 ^ i * u := by rw [← Nat.mul_assoc, Nat.mul_comm (128 ^ i) 128]
          omega
        · rw [sh_hi (by omega), List.take_succ_cons]
          have e1 : (x.toNat % 128 + 128 * u) % 128 + 128 = x.toNat := by omega
          have e2 : (x.toNat % 128 + 128 * u) / 128 = u := by omega
          rw [e1, e2, h5, u8_of rfl]
      · rw [if_neg h128] at h
        by_cases h00 : x.toNat = 0 ∧ 0 < i
        · rw [if_pos h00] at h; simp at h
        · rw [if_neg h00] at h
          simp only [Prod.mk.injEq] at h
          obtain ⟨rfl, rfl, _⟩ := h
          have em : x.toNat % 128 = x.toNat := by omega
          have hf := short_fit x.toNat i hi (by omega) (fun h => by omega)
          have hp := pow128 i hi
          rw [em]
          refine ⟨x.toNat, 1, rfl, by omega, by simp, by rw [Nat.mul_comm], ?_, fun h => by omega, by omega⟩
          rw [sh_lo (by omega), u8_of rfl]; rfl
theorem rsF_bad (l : List UInt8) : ∀ i v, (rsF l i v).2.2 ≠ 0 → (rsF l i v).1 = 0 ∧ (rsF l i v).2.1 = 0 := by
  induction l with
  | nil => intro i v _; exact ⟨rfl, rfl⟩
  | cons x l ih =>
    intro i v h
    rw [rsF_cons] at h ⊢
    split
    · exact ⟨rfl, rfl⟩
    · rename_i h1
      rw [if_neg h1] at h
      split
      · rename_i h2
        rw [if_pos h2] at h
        exact ih _ _ h
      · rename_i h2
        rw [if_neg h2] at h
        split
        · exact ⟨rfl, rfl⟩
        · rename_i h3
          rw [if_neg h3] at h
          exact absurd rfl h
/-- What ReadText reads, written again, stands there. -/
theorem rtF_ok (n : Nat) : ∀ (l acc : List UInt8) i S N, l.length ≤ n → rtF l acc i = (S, N, 0) →
    ∃ s c, N = i + c ∧ 2 ≤ c ∧ c ≤ l.length ∧ S = acc ++ s ∧ tx s = l.take c := by
  induction n with
  | zero =>
    intro l acc i S N hl h
    have : l = [] := List.length_eq_zero_iff.1 (by omega)
    subst this; simp [rtF] at h
  | succ n ih =>
    intro l acc i S N hl h
    match l, hl, h with
    | [], _, h => simp [rtF] at h
    | [x], _, h => rw [rtF_one] at h; simp at h
    | x :: y :: l, hl, h =>
      rw [rtF_cons2] at h
      simp at hl
      by_cases hx : x.toNat = 0
      · rw [if_pos hx] at h
        by_cases hy : y.toNat = 255
        · rw [if_pos hy] at h
          obtain ⟨s, c, h1, h2, h3, h4, h5⟩ := ih l (acc ++ [x]) (i + 2) S N (by omega) h
          refine ⟨x :: s, c + 2, by omega, by omega, by simp; omega, by rw [h4]; simp, ?_⟩
          unfold tx at *
          have ey : y = 255 := by rw [← u8_of hy]; rfl
          have e1 : txb (x :: s) = [x, 255] ++ txb s := by simp [txb, hx]
          rw [e1, List.append_assoc, h5, ← ey]; rfl
        · rw [if_neg hy] at h
          by_cases hy1 : y.toNat = 1
          · rw [if_pos hy1] at h
            simp only [Prod.mk.injEq] at h
            obtain ⟨rfl, rfl, _⟩ := h
            have ex : x = 0 := by rw [← u8_of hx]; rfl
            have ey : y = 1 := by rw [← u8_of hy1]; rfl
            exact ⟨[], 2, rfl, by omega, by simp, by simp, by rw [ex, ey]; rfl⟩
          · rw [if_neg hy1] at h; simp at h
      · rw [if_neg hx] at h
        obtain ⟨s, c, h1, h2, h3, h4, h5⟩ := ih (y :: l) (acc ++ [x]) (i + 1) S N (by simp; omega) h
        refine ⟨x :: s, c + 1, by omega, by omega, by simp at h3 ⊢; omega, by rw [h4]; simp, ?_⟩
        unfold tx at *
        have e1 : txb (x :: s) = [x] ++ txb s := by simp [txb, hx]
        rw [e1, List.append_assoc, h5]; rfl
theorem rtF_bad (n : Nat) : ∀ (l acc : List UInt8) i, l.length ≤ n → (rtF l acc i).2.2 ≠ 0 → (rtF l acc i).1 = [] ∧ (rtF l acc i).2.1 = 0 := by
  induction n with
  | zero =>
    intro l acc i hl _
    have : l = [] := List.length_eq_zero_iff.1 (by omega)
    subst this; exact ⟨rfl, rfl⟩
  | succ n ih =>
    intro l acc i hl h
    match l, hl, h with
    | [], _, _ => exact ⟨rfl, rfl⟩
    | [x], _, _ => exact ⟨rfl, rfl⟩
    | x :: y :: l, hl, h =>
      rw [rtF_cons2] at h ⊢
      simp at hl
      by_cases hx : x.toNat = 0
      · rw [if_pos hx] at h ⊢
        by_cases hy : y.toNat = 255
        · rw [if_pos hy] at h ⊢
          exact ih _ _ _ (by omega) h
        · rw [if_neg hy] at h ⊢
          by_cases hy1 : y.toNat = 1
          · rw [if_pos hy1] at h; exact absurd rfl h
          · rw [if_neg hy1]; exact ⟨rfl, rfl⟩
      · rw [if_neg hx] at h ⊢
        exact ih _ _ _ (by simp; omega) h
end Go.Proofs.YtegcomopcoapjaaGreatDoor

/- Plain words on the order of bytes: no program in sight. -/
namespace Go.Proofs.YtegcomopcoapjaaGreatDoor
open Go.RowKit

theorem txb_cons0 {x : UInt8} (l : List UInt8) (h : x.toNat = 0) : txb (x :: l) = 0 :: 255 :: txb l := by
  have e : x = 0 := by rw [← u8_of h]; rfl
  simp [txb, e]
theorem txb_cons1 {x : UInt8} (l : List UInt8) (h : ¬ x.toNat = 0) : txb (x :: l) = x :: txb l := by simp [txb, h]
theorem u8_lt (x y : UInt8) : (x < y) ↔ x.toNat < y.toNat := UInt8.lt_iff_toNat_lt
theorem u8_eq {x y : UInt8} (h : x.toNat = y.toNat) : x = y := UInt8.toNat_inj.1 h
theorem less_cons (x y : UInt8) (l m : List UInt8) : Op.bytesLess (x :: l) (y :: m) = (decide (x < y) || (x == y && Op.bytesLess l m)) := rfl
theorem less_lt {x y : UInt8} (l m : List UInt8) (h : x.toNat < y.toNat) : Op.bytesLess (x :: l) (y :: m) = true := by
  rw [less_cons, decide_eq_true ((u8_lt x y).2 h)]; rfl
theorem less_gt {x y : UInt8} (l m : List UInt8) (h : y.toNat < x.toNat) : Op.bytesLess (x :: l) (y :: m) = false := by
  have h1 : ¬ x < y := fun hh => by have := (u8_lt x y).1 hh; omega
  have h2 : (x == y) = false := by
    apply beq_eq_false_iff_ne.2
    rintro rfl; omega
  rw [less_cons, decide_eq_false h1, h2]; rfl
theorem less_same (x : UInt8) (l m : List UInt8) : Op.bytesLess (x :: l) (x :: m) = Op.bytesLess l m := by
  have h1 : ¬ x < x := fun hh => by have := (u8_lt x x).1 hh; omega
  rw [less_cons, decide_eq_false h1]; simp

/-- Of texts in order, whatever stands behind, the bytes stand as they do. -/
theorem tx_less (s : List UInt8) : ∀ t A B, Op.bytesLess (txb s ++ 0 :: 1 :: A) (txb t ++ 0 :: 1 :: B) = if s = t then Op.bytesLess A B else Op.bytesLess s t := by
  induction s with
  | nil =>
    intro t A B
    cases t with
    | nil => simp [txb, less_same]
    | cons y t =>
      rw [if_neg (by simp)]
      have e : Op.bytesLess [] (y :: t) = true := rfl
      rw [e]
      by_cases hy : y.toNat = 0
      · rw [txb_cons0 t hy]
        show Op.bytesLess (0 :: 1 :: A) (0 :: 255 :: (txb t ++ 0 :: 1 :: B)) = true
        rw [less_same]
        exact less_lt _ _ (by decide)
      · rw [txb_cons1 t hy]
        exact less_lt _ _ (by show 0 < y.toNat; omega)
  | cons x s ih =>
    intro t A B
    cases t with
    | nil =>
      rw [if_neg (by simp)]
      have e : Op.bytesLess (x :: s) [] = false := rfl
      rw [e]
      by_cases hx : x.toNat = 0
      · rw [txb_cons0 s hx]
        show Op.bytesLess (0 :: 255 :: (txb s ++ 0 :: 1 :: A)) (0 :: 1 :: B) = false
        rw [less_same]
        exact less_gt _ _ (by decide)
      · rw [txb_cons1 s hx]
        exact less_gt _ _ (by show 0 < x.toNat; omega)
    | cons y t =>
      rcases Nat.lt_trichotomy x.toNat y.toNat with h | h | h
      · have hne : x :: s ≠ y :: t := by rintro hh; simp at hh; rw [hh.1] at h; omega
        rw [if_neg hne, less_lt s t h]
        by_cases hx : x.toNat = 0
        · rw [txb_cons0 s hx, txb_cons1 t (by omega)]
          exact less_lt _ _ (by show 0 < y.toNat; omega)
        · rw [txb_cons1 s hx, txb_cons1 t (by omega)]
          exact less_lt _ _ h
      · have e := u8_eq h
        subst e
        have e2 : (x :: s = x :: t) ↔ s = t := by simp
        simp only [e2, less_same]
        rw [← ih t A B]
        by_cases hx : x.toNat = 0
        · rw [txb_cons0 s hx, txb_cons0 t hx]
          show Op.bytesLess (0 :: 255 :: (txb s ++ 0 :: 1 :: A)) (0 :: 255 :: (txb t ++ 0 :: 1 :: B)) = _
          rw [less_same, less_same]
        · rw [txb_cons1 s hx, txb_cons1 t hx]
          show Op.bytesLess (x :: (txb s ++ 0 :: 1 :: A)) (x :: (txb t ++ 0 :: 1 :: B)) = _
          rw [less_same]
      · have hne : x :: s ≠ y :: t := by rintro hh; simp at hh; rw [hh.1] at h; omega
        rw [if_neg hne, less_gt s t h]
        by_cases hy : y.toNat = 0
        · rw [txb_cons0 t hy, txb_cons1 s (by omega)]
          exact less_gt _ _ (by show 0 < x.toNat; omega)
        · rw [txb_cons1 t hy, txb_cons1 s (by omega)]
          exact less_gt _ _ h
/-- Texts in order, whatever stands behind, are told from each other. -/
theorem tx_inj (s : List UInt8) : ∀ t A B, txb s ++ 0 :: 1 :: A = txb t ++ 0 :: 1 :: B → s = t ∧ A = B := by
  induction s with
  | nil =>
    intro t A B h
    cases t with
    | nil => simp [txb] at h; exact ⟨rfl, h⟩
    | cons y t =>
      exfalso
      by_cases hy : y.toNat = 0
      · rw [txb_cons0 t hy] at h
        have h2 := (List.cons.inj (List.cons.inj h).2).1
        exact absurd h2 (by decide)
      · rw [txb_cons1 t hy] at h
        have h2 := (List.cons.inj h).1
        rw [← h2] at hy
        exact hy rfl
  | cons x s ih =>
    intro t A B h
    cases t with
    | nil =>
      exfalso
      by_cases hx : x.toNat = 0
      · rw [txb_cons0 s hx] at h
        have h2 := (List.cons.inj (List.cons.inj h).2).1
        exact absurd h2 (by decide)
      · rw [txb_cons1 s hx] at h
        have h2 := (List.cons.inj h).1
        rw [h2] at hx
        exact hx rfl
    | cons y t =>
      by_cases hx : x.toNat = 0
      · by_cases hy : y.toNat = 0
        · rw [txb_cons0 s hx, txb_cons0 t hy] at h
          have h2 := ih t A B (List.cons.inj (List.cons.inj h).2).2
          exact ⟨by rw [u8_eq (hx.trans hy.symm), h2.1], h2.2⟩
        · exfalso
          rw [txb_cons0 s hx, txb_cons1 t hy] at h
          have h2 := (List.cons.inj h).1
          rw [← h2] at hy; exact hy rfl
      · by_cases hy : y.toNat = 0
        · exfalso
          rw [txb_cons1 s hx, txb_cons0 t hy] at h
          have h2 := (List.cons.inj h).1
          rw [h2] at hx; exact hx rfl
        · rw [txb_cons1 s hx, txb_cons1 t hy] at h
          obtain ⟨h1, h2⟩ := List.cons.inj h
          have h3 := ih t A B h2
          exact ⟨by rw [h1, h3.1], h3.2⟩
/-- The value of bytes, the greatest first. -/
def bv : List UInt8 → Nat
  | [] => 0
  | x :: l => x.toNat * 256 ^ l.length + bv l
theorem bv_lt (l : List UInt8) : bv l < 256 ^ l.length := by
  induction l with
  | nil => simp [bv]
  | cons x l ih =>
    have hx := UInt8.toNat_lt x
    have h1 : x.toNat * 256 ^ l.length ≤ 255 * 256 ^ l.length := Nat.mul_le_mul_right _ (by omega)
    have h2 : 256 ^ (l.length + 1) = 256 * 256 ^ l.length := by rw [Nat.pow_succ, Nat.mul_comm]
    simp only [bv, List.length_cons]
    rw [h2]
    generalize 256 ^ l.length = q at *
    omega
theorem less_bv (l : List UInt8) : ∀ m, l.length = m.length → Op.bytesLess l m = decide (bv l < bv m) := by
  induction l with
  | nil => intro m h; cases m with
    | nil => simp [Op.bytesLess, bv]
    | cons y m => simp at h
  | cons x l ih =>
    intro m h
    cases m with
    | nil => simp at h
    | cons y m =>
      simp at h
      have b1 := bv_lt l
      have b2 := bv_lt m
      rw [h] at b1
      have e1 : bv (x :: l) = x.toNat * 256 ^ m.length + bv l := by simp only [bv]; rw [h]
      have e2 : bv (y :: m) = y.toNat * 256 ^ m.length + bv m := rfl
      rw [e1, e2]
      rcases Nat.lt_trichotomy x.toNat y.toNat with g | g | g
      · rw [less_lt l m g]
        have : (x.toNat + 1) * 256 ^ m.length ≤ y.toNat * 256 ^ m.length := Nat.mul_le_mul_right _ g
        rw [Nat.add_mul, Nat.one_mul] at this
        symm; apply decide_eq_true; omega
      · have e := u8_eq g
        subst e
        rw [less_same, ih m h]
        apply decide_eq_decide.2; omega
      · rw [less_gt l m g]
        have : (y.toNat + 1) * 256 ^ m.length ≤ x.toNat * 256 ^ m.length := Nat.mul_le_mul_right _ g
        rw [Nat.add_mul, Nat.one_mul] at this
        symm; apply decide_eq_false; omega
theorem bv_eq (l : List UInt8) : ∀ m, l.length = m.length → bv l = bv m → l = m := by
  induction l with
  | nil => intro m h _; cases m with
    | nil => rfl
    | cons y m => simp at h
  | cons x l ih =>
    intro m h hb
    cases m with
    | nil => simp at h
    | cons y m =>
      simp at h
      have b1 := bv_lt l
      have b2 := bv_lt m
      simp only [bv] at hb
      rw [h] at hb b1
      rcases Nat.lt_trichotomy x.toNat y.toNat with g | g | g
      · exfalso
        have : (x.toNat + 1) * 256 ^ m.length ≤ y.toNat * 256 ^ m.length := Nat.mul_le_mul_right _ g
        rw [Nat.add_mul, Nat.one_mul] at this
        omega
      · have e := u8_eq g
        subst e
        rw [ih m h (by omega)]
      · exfalso
        have : (y.toNat + 1) * 256 ^ m.length ≤ x.toNat * 256 ^ m.length := Nat.mul_le_mul_right _ g
        rw [Nat.add_mul, Nat.one_mul] at this
        omega
theorem bv_nb (v : Int) (h1 : -9223372036854775808 ≤ v) (h2 : v ≤ 9223372036854775807) : (bv (nb v) : Int) = v + 9223372036854775808 := by
  obtain ⟨n, hn⟩ := Int.eq_ofNat_of_zero_le (show 0 ≤ v + 9223372036854775808 by omega)
  have hb : n < 18446744073709551616 := by omega
  unfold nb
  rw [hn]
  have e : eight (n : Int) = [((n / 72057594037927936 % 256 : Nat) : Int), ((n / 281474976710656 % 256 : Nat) : Int), ((n / 1099511627776 % 256 : Nat) : Int), ((n / 4294967296 % 256 : Nat) : Int), ((n / 16777216 % 256 : Nat) : Int), ((n / 65536 % 256 : Nat) : Int), ((n / 256 % 256 : Nat) : Int), ((n % 256 : Nat) : Int)] := by
    unfold eight bytesTo byteOf
    simp [List.range_succ]
  rw [e]
  have f : ∀ k : Nat, k < 256 → (UInt8.ofNat k).toNat = k := fun k hk => by simp [UInt8.toNat_ofNat']; omega
  simp only [List.map_cons, List.map_nil, bv, Int.toNat_natCast, List.length_cons, List.length_nil]
  rw [f _ (by omega), f _ (by omega), f _ (by omega), f _ (by omega), f _ (by omega), f _ (by omega), f _ (by omega), f _ (by omega)]
  omega
end Go.Proofs.YtegcomopcoapjaaGreatDoor
