/- What the fixed calls of layer 7's 'alive' come to; lists that are too long. -/
import Derived.Test.YtgdjjpnejdedhaaB5
import Derived.Lib.SmallJoins
namespace Go.Proofs.Ytgdjjpnejdedhaa
open Go.RowKit Go.Joins

theorem gb_zero (d q : Nat) : gb (List.replicate d 0) q = false := by
  unfold gb
  have : (List.replicate d (0 : UInt8)).getD (q / 8) 0 = 0 := by
    simp only [List.getD, List.getElem?_replicate]; split <;> rfl
  rw [this]; exact Nat.zero_testBit _
theorem my_zero (d n h : Nat) (key : List UInt8) (hh : 1 ≤ h) : myF (List.replicate d 0) (plc key n h) = false := by
  obtain ⟨k, rfl⟩ : ∃ k, h = k + 1 := ⟨h - 1, by omega⟩
  unfold myF
  rw [plc_succ, List.all_append]
  simp [gb_zero]
theorem plc_in {key : List UInt8} {D : List UInt8} {h : Nat} (hd : 0 < D.length) : ∀ p ∈ plc key (8 * D.length) h, p / 8 < D.length := by
  intro p hp
  have := plc_lt (key := key) (n := 8 * D.length) (h := h) (by omega) p hp
  omega
theorem my_more (D : List UInt8) (ps : List Nat) (hp : ∀ p ∈ ps, p / 8 < D.length) (qs : List Nat) (hq : myF D qs = true) : myF (adF D ps) qs = true := by
  unfold myF at hq ⊢
  rw [List.all_eq_true] at hq ⊢
  intro q hm
  rw [gb_adF ps D q hp, hq q hm]; rfl
theorem my_added (D : List UInt8) (ps : List Nat) (hp : ∀ p ∈ ps, p / 8 < D.length) : myF (adF D ps) ps = true := by
  unfold myF
  rw [List.all_eq_true]
  intro q hm
  rw [gb_adF ps D q hp]; simp [hm]
theorem reads_a (w1 : World) : Reads (w1.alloc (.cells #[.int .u8 97] 5 (1, 2))) (.slice (some ⟨w1.heap.size, 0, none⟩) 1 1) [97] := by
  refine .inr ⟨w1.heap.size, 0, 1, rfl, by decide, by decide, by decide, by simp, ?_⟩
  intro j hj
  have hj' : j < 1 := hj
  match j, hj' with
  | 0, _ => (rw [Nat.zero_add, cell_alloc_mark_at _ _ _ _ _ _ rfl]; rfl)
set_option maxRecDepth 100000 in
set_option maxHeartbeats 1000000 in
theorem alive_any (w : World) : Calls Try.prog 10 #[] w fun e w' => e = .returned (.bool true) ∧ Below w.heap.size w w' := by
  go_enter Try.func10, Try.ntmps10
  go_wp2_with fail
  refine (new_ok 8 3 (by unfold newOk; omega) _).mono ?_
  rintro e w1 ⟨v, rfl, hf1, hb1⟩
  have HF1 : Hid (Fil w1 w.heap.size v 3 (List.replicate 8 0)) := hf1
  have HB1 : Hid (Below w.heap.size w w1) := hb1
  obtain ⟨B, rfl⟩ : ∃ B, v = .pointer (some ⟨B, 0, none⟩) := by obtain ⟨B, _, _, rfl, _⟩ := hf1; exact ⟨B, rfl⟩
  clear hf1 hb1
  go_wp2_with fail
  refine (new_no 7 3 (by unfold newOk; omega) _).mono ?_
  rintro e w2 ⟨rfl, hw⟩
  subst w2
  have hcv := run_convert_bytes_const_at (P := Try.prog) w1 33 5 #[.int .u8 97] 1 1 w1.heap.size rfl Try.underlying33 Try.underlying5
  go_wp2_with fail
  have hA := (Below.refl w1.heap.size w1).alloc (Nat.le_refl _) (.cells #[.int .u8 97] 5 (1, 2))
  refine (may_any _ _ 3 _ [97] _ w.heap.size (HF1.out.below hA) (reads_a w1)).mono ?_
  rintro e w2 ⟨rfl, hb2⟩
  rw [my_zero _ _ _ _ (by decide)]
  have HF2 : Hid (Fil w2 w.heap.size (.pointer (some ⟨B, 0, none⟩)) 3 (List.replicate 8 0)) := (HF1.out.below hA).below hb2
  have HB2 : Hid (Below w.heap.size w w2) := HB1.out.trans ((hA.mono HB1.out.size).trans (hb2.mono (Nat.le_trans HB1.out.size hA.size)))
  clear hcv hA hb2 HF1 HB1
  go_wp2_with fail
  refine (fit_any 3 _).mono ?_
  rintro e w3 ⟨rfl, hw⟩
  subst w3
  have ef : fitF 3 = (32, 6, 0) := by decide
  rw [ef]
  clear ef
  have hcv := run_convert_bytes_const_at (P := Try.prog) w2 33 5 #[.int .u8 97] 1 1 w2.heap.size rfl Try.underlying33 Try.underlying5
  go_wp2_with fail
  have hA := (Below.refl w2.heap.size w2).alloc (Nat.le_refl _) (.cells #[.int .u8 97] 5 (1, 2))
  refine (add_any _ _ 3 _ [97] _ w.heap.size (Nat.le_trans HB2.out.size hA.size) (HF2.out.below hA) (reads_a w2)).mono ?_
  rintro e w4 ⟨rfl, hf4, hb4, _⟩
  have HF4 : Hid (Fil w4 w.heap.size (.pointer (some ⟨B, 0, none⟩)) 3 (adF (List.replicate 8 0) (plc [97] (8 * (List.replicate 8 (0 : UInt8)).length) 3))) := hf4
  have HB4 : Hid (Below w.heap.size w w4) := HB2.out.trans ((hA.mono HB2.out.size).trans hb4)
  clear hcv hA hf4 hb4 HF2 HB2
  have hcv := run_convert_bytes_const_at (P := Try.prog) w4 33 5 #[.int .u8 97] 1 1 w4.heap.size rfl Try.underlying33 Try.underlying5
  go_wp2_with fail
  have hA := (Below.refl w4.heap.size w4).alloc (Nat.le_refl _) (.cells #[.int .u8 97] 5 (1, 2))
  refine (may_any _ _ 3 _ [97] _ w.heap.size (HF4.out.below hA) (reads_a w4)).mono ?_
  rintro e w5 ⟨rfl, hb5⟩
  rw [adF_len, my_added _ _ (plc_in (by simp))]
  have HB5 : Hid (Below w.heap.size w w5) := HB4.out.trans ((hA.mono HB4.out.size).trans (hb5.mono (Nat.le_trans HB4.out.size hA.size)))
  clear hcv hA hb5 HF4 HB4
  go_wp2_with fail
  go_ret
  exact ⟨rfl, HB5.out⟩
end Go.Proofs.Ytgdjjpnejdedhaa
