/- The contract of layer 9's 'alive'. -/
import Derived.Test.YtfgggfddehgigaaBK8
import Derived.Lib.SmallJoins
namespace Go.Proofs.Ytfgggfddehgigaa
open Go.RowKit Go.Joins

def alL : List Pr := [([97, 98], [1]), ([97, 99], [])]
theorem alW : wrB alL = [0, 2, 1, 97, 98, 1, 1, 1, 0, 99] := by
  have h0 : mbF alL = 0 := by decide
  have c : com [97, 98] [97, 99] = 1 := by decide
  unfold wrB
  rw [if_pos h0]
  simp [wb, wbF, alL, pb, svd, c, sh_lo]
theorem alM : mbF alL = 0 := by decide
theorem alR : rdB [0, 2] = none := by decide +kernel
theorem alC : com [97, 98] [97, 99] = 1 := by decide
theorem reads_two (w1 : World) (x y : UInt8) (fr : Nat × Nat) : Reads (w1.alloc (.cells #[.int .u8 (x.toNat : Int), .int .u8 (y.toNat : Int)] 5 fr)) (.slice (some ⟨w1.heap.size, 0, none⟩) 2 2) [x, y] := by
  refine .inr ⟨w1.heap.size, 0, 2, rfl, by simp, by simp, by simp [maxLen], by simp, fun j hj => ?_⟩
  have hh := World.alloc_heap_new w1 (.cells #[.int .u8 (x.toNat : Int), .int .u8 (y.toNat : Int)] 5 fr)
  match j, hj with
  | 0, _ => (unfold World.cell?; dsimp only; rw [hh]; rfl)
  | 1, _ => (unfold World.cell?; dsimp only; rw [hh]; rfl)
theorem reads_oneb (w1 : World) (x : UInt8) (fr : Nat × Nat) : Reads (w1.alloc (.cells #[.int .u8 (x.toNat : Int)] 5 fr)) (.slice (some ⟨w1.heap.size, 0, none⟩) 1 1) [x] := by
  refine .inr ⟨w1.heap.size, 0, 1, rfl, by simp, by simp, by simp [maxLen], by simp, fun j hj => ?_⟩
  have hh := World.alloc_heap_new w1 (.cells #[.int .u8 (x.toNat : Int)] 5 fr)
  match j, hj with
  | 0, _ => (unfold World.cell?; dsimp only; rw [hh]; rfl)
set_option maxRecDepth 100000 in
set_option maxHeartbeats 4000000 in
theorem alive_any (w : World) : Calls Try.prog 7 #[] w fun e w' => e = .returned (.bool true) ∧ Below w.heap.size w w' := by
  have hcv1 := run_convert_bytes_const_at (P := Try.prog) w 23 5 #[.int .u8 97, .int .u8 98] 2 2 w.heap.size rfl Try.underlying23 Try.underlying5
  have hcv2 := run_convert_bytes_const_at (P := Try.prog) ((w.alloc (.cells #[.int .u8 97, .int .u8 98] 5 (2, 3))).alloc (.cells #[.int .u8 1] 5)) 23 5 #[.int .u8 97, .int .u8 99] 2 2 (w.heap.size + 1 + 1) (by simp) Try.underlying23 Try.underlying5
  obtain ⟨w1, HW1⟩ := hid_ex ((((w.alloc (.cells #[.int .u8 97, .int .u8 98] 5 (2, 3))).alloc (.cells #[.int .u8 1] 5)).alloc (.cells #[.int .u8 97, .int .u8 99] 5 (2, 3))).alloc (.cells #[.slice (some ⟨w.heap.size, 0, none⟩) 2 2, .slice (some ⟨w.heap.size + 1, 0, none⟩) 1 1, .slice (some ⟨w.heap.size + 1 + 1, 0, none⟩) 2 2, .slice none 0 0] 38))
  have HB1 : Hid (Below w.heap.size w w1) := by rw [HW1.out]; exact ((((Below.refl _ w).alloc (Nat.le_refl _) _).alloc (by simp) _).alloc (by simp; omega) _).alloc (by simp; omega) _
  have HP1 : Hid (PReads w1 (.slice (some ⟨w.heap.size + 1 + 1 + 1, 0, none⟩) 2 2) alL) := by
    have r1 : Reads w1 (.slice (some ⟨w.heap.size, 0, none⟩) 2 2) [97, 98] := by rw [HW1.out]; exact (((reads_two w 97 98 (2, 3)).alloc _).alloc _).alloc _
    have r2 : Reads w1 (.slice (some ⟨w.heap.size + 1, 0, none⟩) 1 1) [1] := by
      rw [HW1.out]
      have := ((reads_oneb (w.alloc (.cells #[.int .u8 97, .int .u8 98] 5 (2, 3))) 1 (0, 0)).alloc (.cells #[.int .u8 97, .int .u8 99] 5 (2, 3))).alloc (.cells #[.slice (some ⟨w.heap.size, 0, none⟩) 2 2, .slice (some ⟨w.heap.size + 1, 0, none⟩) 1 1, .slice (some ⟨w.heap.size + 1 + 1, 0, none⟩) 2 2, .slice none 0 0] 38)
      rw [World.size_alloc] at this
      exact this
    have r3 : Reads w1 (.slice (some ⟨w.heap.size + 1 + 1, 0, none⟩) 2 2) [97, 99] := by
      rw [HW1.out]
      have := (reads_two ((w.alloc (.cells #[.int .u8 97, .int .u8 98] 5 (2, 3))).alloc (.cells #[.int .u8 1] 5)) 97 99 (2, 3)).alloc (.cells #[.slice (some ⟨w.heap.size, 0, none⟩) 2 2, .slice (some ⟨w.heap.size + 1, 0, none⟩) 1 1, .slice (some ⟨w.heap.size + 1 + 1, 0, none⟩) 2 2, .slice none 0 0] 38)
      rw [World.size_alloc, World.size_alloc] at this
      exact this
    have hh : w1.heap[w.heap.size + 1 + 1 + 1]? = some (.cells #[.slice (some ⟨w.heap.size, 0, none⟩) 2 2, .slice (some ⟨w.heap.size + 1, 0, none⟩) 1 1, .slice (some ⟨w.heap.size + 1 + 1, 0, none⟩) 2 2, .slice none 0 0] 38) := by
      rw [HW1.out]
      have := World.alloc_heap_new (((w.alloc (.cells #[.int .u8 97, .int .u8 98] 5 (2, 3))).alloc (.cells #[.int .u8 1] 5)).alloc (.cells #[.int .u8 97, .int .u8 99] 5 (2, 3))) (.cells #[.slice (some ⟨w.heap.size, 0, none⟩) 2 2, .slice (some ⟨w.heap.size + 1, 0, none⟩) 1 1, .slice (some ⟨w.heap.size + 1 + 1, 0, none⟩) 2 2, .slice none 0 0] 38)
      rw [World.size_alloc, World.size_alloc, World.size_alloc] at this
      exact this
    refine ⟨_, 2, rfl, by simp [alL], by simp [maxLen], .inr ⟨_, 0, rfl, (Array.getElem?_eq_some_iff.1 hh).1, fun j hj => ?_⟩⟩
    have hj2 : j < 2 := hj
    match j, hj2 with
    | 0, _ => exact ⟨_, _, cell_rw hh 0 (by simp), cell_rw hh 1 (by simp), r1, r2⟩
    | 1, _ => exact ⟨_, _, cell_rw hh 2 (by simp), cell_rw hh 3 (by simp), r3, .inl ⟨rfl, _, _, rfl, fun _ => rfl⟩⟩
  go_enter Try.func7, Try.ntmps7
  go_wp2_with fail
  rw [← HW1.out]
  clear hcv1 hcv2 HW1
  refine (write_any _ alL _ HP1.out).mono ?_
  rintro e w2 ⟨v2, rfl, ho2, hb2⟩
  rw [alM]
  have HO2 : Hid (Reads w2 v2 (wrB alL)) := ho2.reads
  have HB2 : Hid (Below w.heap.size w w2) := HB1.out.trans (hb2.mono HB1.out.size)
  clear ho2 hb2 HB1 HP1
  obtain ⟨a2, c2, rfl, _⟩ := HO2.out.form
  obtain ⟨w3, HW3⟩ := hid_ex (w2.alloc (.cells #[.int .u8 0, .int .u8 2] 5))
  have hb3 : Below w2.heap.size w2 w3 := by rw [HW3.out]; exact (Below.refl _ _).alloc (Nat.le_refl _) _
  have HO3 : Hid (Reads w3 (.slice a2 (wrB alL).length c2) (wrB alL)) := HO2.out.below hb3
  have HB3 : Hid (Below w.heap.size w w3) := HB2.out.trans (hb3.mono HB2.out.size)
  have HR3 : Hid (Reads w3 (.slice (some ⟨w2.heap.size, 0, none⟩) 2 2) [0, 2]) := by rw [HW3.out]; exact reads_two w2 0 2 (0, 0)
  clear hb3 HO2 HB2
  go_wp2_with fail
  rw [← HW3.out]
  refine (read_any _ [0, 2] (by simp) _ HR3.out).mono ?_
  rintro e w4 ⟨hb4, he⟩
  rw [alR] at he
  dsimp only at he
  subst he
  have HO4 : Hid (Reads w4 (.slice a2 (wrB alL).length c2) (wrB alL)) := HO3.out.below hb4
  have HB4 : Hid (Below w.heap.size w w4) := HB3.out.trans (hb4.mono HB3.out.size)
  clear hb4 HO3 HB3 HR3 HW3
  have hcs := reads_text HO4.out
  rw [alW] at hcs
  rw [alW]
  have hcv1 := run_convert_bytes_const_at (P := Try.prog) w4 23 5 #[.int .u8 97, .int .u8 98] 2 2 w4.heap.size rfl Try.underlying23 Try.underlying5
  have hcv2 := run_convert_bytes_const_at (P := Try.prog) (w4.alloc (.cells #[.int .u8 97, .int .u8 98] 5 (2, 3))) 23 5 #[.int .u8 97, .int .u8 99] 2 2 (w4.heap.size + 1) (by simp) Try.underlying23 Try.underlying5
  simp only [List.length_cons, List.length_nil, Nat.reduceAdd] at hcs ⊢
  go_wp2_with fail
  clear hcv1 hcv2 hcs
  obtain ⟨w5, HW5⟩ := hid_ex ((w4.alloc (.cells #[.int .u8 97, .int .u8 98] 5 (2, 3))).alloc (.cells #[.int .u8 97, .int .u8 99] 5 (2, 3)))
  have HB5 : Hid (Below w.heap.size w w5) := by rw [HW5.out]; exact (HB4.out.alloc HB4.out.size _).alloc (by have := HB4.out.size; simp; omega) _
  have r1 : Reads w5 (.slice (some ⟨w4.heap.size, 0, none⟩) 2 2) [97, 98] := by rw [HW5.out]; exact (reads_two w4 97 98 (2, 3)).alloc _
  have r2 : Reads w5 (.slice (some ⟨w4.heap.size + 1, 0, none⟩) 2 2) [97, 99] := by
    rw [HW5.out]
    have := reads_two (w4.alloc (.cells #[.int .u8 97, .int .u8 98] 5 (2, 3))) 97 99 (2, 3)
    rw [World.size_alloc] at this
    exact this
  rw [← HW5.out]
  refine (common_any _ _ [97, 98] [97, 99] _ r1 r2).mono ?_
  rintro e w6 ⟨rfl, hb6⟩
  rw [alC]
  have HB6 : Hid (Below w.heap.size w w6) := HB5.out.trans (hb6.mono HB5.out.size)
  clear hb6 r1 r2
  go_wp2_with fail
  go_ret
  exact ⟨rfl, HB6.out⟩
end Go.Proofs.Ytfgggfddehgigaa
