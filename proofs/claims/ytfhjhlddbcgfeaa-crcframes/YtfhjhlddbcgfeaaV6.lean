/- What the fixed calls of layer 5's 'alive' come to; the reference's Copy. -/
import Derived.Test.YtfhjhlddbcgfeaaV5
import Derived.Lib.SmallJoins
namespace Go.Proofs.Ytfhjhlddbcgfeaa
open Go.RowKit Go.Joins

theorem nine : mor 0 [49, 50, 51, 52, 53, 54, 55, 56, 57] = 3808858755 := by decide +kernel
set_option maxRecDepth 100000 in
set_option maxHeartbeats 1000000 in
theorem alive_any (w : World) : Calls Try.prog 9 #[] w fun e w' => e = .returned (.bool true) ∧ Below w.heap.size w w' := by
  go_enter Try.func9, Try.ntmps9
  go_wp2_with fail
  refine (frame_any _ [] (by simp) _ (.inl ⟨rfl, _, _, rfl, fun _ => rfl⟩)).mono ?_
  rintro e w1 ⟨v, rfl, HO1, hb1⟩
  have HB1 : Hid (Below w.heap.size w w1) := hb1
  obtain ⟨a, cap, rfl, _⟩ := HO1.form
  rw [frm_len]
  clear hb1 HO1
  go_wp2_with fail
  refine (next_short none 0 0 (by decide) _).mono ?_
  rintro e w2 ⟨rfl, hw⟩
  subst w2
  have HRD : Hid (Reads (w1.alloc (.cells #[.int .u8 49, .int .u8 50, .int .u8 51, .int .u8 52, .int .u8 53, .int .u8 54, .int .u8 55, .int .u8 56, .int .u8 57] 5 (9, 10))) (.slice (some ⟨w1.heap.size, 0, none⟩) 9 9) [49, 50, 51, 52, 53, 54, 55, 56, 57]) := by
    refine .inr ⟨w1.heap.size, 0, 9, rfl, by decide, by decide, by decide, by simp, ?_⟩
    intro j hj
    have hj' : j < 9 := hj
    match j, hj' with
    | 0, _ => (rw [Nat.zero_add, cell_alloc_mark_at _ _ _ _ _ _ rfl]; rfl)
    | 1, _ => (rw [Nat.zero_add, cell_alloc_mark_at _ _ _ _ _ _ rfl]; rfl)
    | 2, _ => (rw [Nat.zero_add, cell_alloc_mark_at _ _ _ _ _ _ rfl]; rfl)
    | 3, _ => (rw [Nat.zero_add, cell_alloc_mark_at _ _ _ _ _ _ rfl]; rfl)
    | 4, _ => (rw [Nat.zero_add, cell_alloc_mark_at _ _ _ _ _ _ rfl]; rfl)
    | 5, _ => (rw [Nat.zero_add, cell_alloc_mark_at _ _ _ _ _ _ rfl]; rfl)
    | 6, _ => (rw [Nat.zero_add, cell_alloc_mark_at _ _ _ _ _ _ rfl]; rfl)
    | 7, _ => (rw [Nat.zero_add, cell_alloc_mark_at _ _ _ _ _ _ rfl]; rfl)
    | 8, _ => (rw [Nat.zero_add, cell_alloc_mark_at _ _ _ _ _ _ rfl]; rfl)
  have hsz1 := HB1.out.size
  have hcv := run_convert_bytes_const_at (P := Try.prog) w1 22 5 #[.int .u8 49, .int .u8 50, .int .u8 51, .int .u8 52, .int .u8 53, .int .u8 54, .int .u8 55, .int .u8 56, .int .u8 57] 9 9 w1.heap.size rfl Try.underlying22 Try.underlying5
  go_wp2_with fail
  refine (sum_any _ _ _ HRD.out).mono ?_
  rintro e w3 ⟨rfl, hw⟩
  subst w3
  rw [nine]
  clear HRD hcv
  go_wp2_with fail
  go_ret
  exact ⟨rfl, HB1.out.alloc hsz1 _⟩
set_option maxRecDepth 100000 in
set_option maxHeartbeats 1000000 in
theorem copy_any (v : Value) (l : List UInt8) (hl : l.length ≤ 100000) (w : World) (hr : Reads w v l) :
    Calls Try.prog 16 #[v] w fun e w' => ∃ v', e = .returned v' ∧ Own w' w.heap.size v' l ∧ Below w.heap.size w w' := by
  go_enter Try.func16, Try.ntmps16
  go_wp2_with (at_builtin; refine wpList_app rfl _ _ rfl w.heap.size _ _ [] l l rfl rfl rfl (Own.nil _ _) hr (by simp; omega) (Nat.le_refl _) ?_)
  intro v2 w2 HO2 hb2
  clear hr
  go_wp2_with fail
  go_ret
  exact ⟨_, rfl, HO2, hb2.out⟩
end Go.Proofs.Ytfhjhlddbcgfeaa
