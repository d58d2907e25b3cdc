/- What the fixed calls of layer 6's 'alive' come to: true. -/
import Derived.Test.YtbcdmammedabmaaK7
import Derived.Test.YtbcdmammedabmaaK6
namespace Go.Proofs.Ytbcdmammedabmaa
open Go.RowKit

set_option maxRecDepth 100000 in
set_option maxHeartbeats 1000000 in
theorem parted_nil (a : Option Addr) (cap : Nat) (w : World) :
    Calls Try.prog 28 #[.slice a 0 cap] w fun e w' => e = .returned (.tuple #[.slice none 0 0, .slice none 0 0, .bool false]) ∧ w' = w := by
  go_enter Try.func28, Try.ntmps28
  go_wp2_with fail
  go_step3
  go_wp2_with fail
  go_step3
  go_wp2_with fail
  go_loop [0, 5] (fun x y => x = .slice a 0 cap ∧ y = .slice none 0 0) (fun _ _ => 0)
  case atStart => exact ⟨rfl, rfl⟩
  case round =>
    obtain ⟨rfl, rfl⟩ := hrel
    go_wp2_with fail
    go_ret3
    exact ⟨rfl, rfl⟩
set_option maxRecDepth 100000 in
set_option maxHeartbeats 1000000 in
theorem read_nil (a : Option Addr) (cap : Nat) (w : World) :
    Calls Try.prog 13 #[.slice a 0 cap] w fun e w' => e = .returned (.tuple #[.agg #[.slice none 0 0, .int .i64 0, .int .i64 0], .int .i64 40]) ∧ Below w.heap.size w w' := by
  go_enter Try.func13, Try.ntmps13
  go_wp2_with fail
  refine (parted_nil a cap _).mono ?_
  rintro e w1 ⟨rfl, hw⟩
  subst w1
  go_wp2_with fail
  refine bodyPost_ret (v := .tuple #[.agg #[.slice none 0 0, .int .i64 0, .int .i64 0], .int .i64 40]) (by simp [results, Try.results13, go_sem]) rfl ⟨rfl, ?_⟩
  exact (Below.refl _ _).alloc (Nat.le_refl _) _
set_option maxRecDepth 100000 in
set_option maxHeartbeats 1000000 in
theorem alive_any (w : World) : Calls Try.prog 10 #[] w fun e w' => e = .returned (.bool true) ∧ Below w.heap.size w w' := by
  have HB0 : Hid (Below w.heap.size w (w.alloc (.cells #[.string ⟨#[97]⟩] 9))) := (Below.refl _ _).alloc (Nat.le_refl _) _
  have HK0 : KLies ⟨.slice (some ⟨w.heap.size, 0, none⟩) 1 1, [⟨#[97]⟩], 0, 1⟩ (w.alloc (.cells #[.string ⟨#[97]⟩] 9)) := by
    refine ⟨.inr ⟨w.heap.size, 0, 1, rfl, Nat.one_pos, Nat.le_refl 1, by decide, by simp, ?_, ?_⟩, by simp, by simp, by simp, by simp⟩
    · intro j hj
      have : j = 0 := by simpa using hj
      subst this; simp
    · intro s hs; simp at hs; subst hs; decide
  have HRB : Hid (rightB [⟨#[97]⟩] 0 1 = true) := by unfold Hid; decide
  have HKB : Hid (kb [⟨#[97]⟩] 0 1 = [1, 97, 0, 1, 0, 128, 0, 0, 0, 0, 0, 0, 0, 1]) := by unfold Hid; decide
  go_enter Try.func10, Try.ntmps10
  go_wp2_with fail
  refine (write_yes ⟨.slice (some ⟨w.heap.size, 0, none⟩) 1 1, [⟨#[97]⟩], 0, 1⟩ HRB.out _ HK0).mono ?_
  rintro e w1 ⟨v1, rfl, HO1, hb1⟩
  simp only at HO1
  rw [HKB.out] at HO1
  have HR1 : Reads w1 v1 [1, 97, 0, 1, 0, 128, 0, 0, 0, 0, 0, 0, 0, 1] := HO1.reads
  have HB1 : Hid (Below w.heap.size w w1) := HB0.out.trans (hb1.mono (by simp))
  clear hb1 HO1 HK0
  go_wp2_with fail
  refine (read_nil _ _ _).mono ?_
  rintro e w2 ⟨rfl, hb2⟩
  have HB2 : Hid (Below w.heap.size w w2) := HB1.out.trans (hb2.mono HB1.out.size)
  have HR2 := HR1.below hb2
  clear hb2 HR1
  obtain ⟨W, HW⟩ := hid_ex ((w2.alloc (.cells #[.slice none 0 0, .int .i64 0, .int .i64 0] 24)).alloc (.cells #[.string ⟨#[97]⟩, .string ⟨#[98]⟩, .string ⟨#[99]⟩] 9))
  have HS : SReads W (.slice (some ⟨w2.heap.size + 1, 0, none⟩) 3 3) [⟨#[97]⟩, ⟨#[98]⟩, ⟨#[99]⟩] := by
    rw [HW.out]
    refine .inr ⟨w2.heap.size + 1, 0, 3, rfl, by simp, by simp, by decide, by simp, ?_, ?_⟩
    · intro j hj
      have hj' : j < 3 := hj
      match j, hj' with
      | 0, _ => simp [go_sem]
      | 1, _ => simp [go_sem]
      | 2, _ => simp [go_sem]
    · intro s hs
      simp at hs
      rcases hs with rfl | rfl | rfl <;> decide
  have HBW : Hid (Below w2.heap.size w2 W) := by rw [HW.out]; exact ((Below.refl _ _).alloc (Nat.le_refl _) _).alloc (by simp) _
  have HR3 := HR2.below HBW.out
  have HB3 : Hid (Below w.heap.size w W) := HB2.out.trans (HBW.out.mono HB2.out.size)
  go_wp2_with fail
  rw [← HW.out]
  refine (part_any _ [⟨#[97]⟩, ⟨#[98]⟩, ⟨#[99]⟩] (by simp) 5 (by decide) _ HS).mono ?_
  rintro e w4 ⟨v4, rfl, HO4, hb4⟩
  have HB4 : Hid (Below w.heap.size w w4) := HB3.out.trans (hb4.mono HB3.out.size)
  have hcv := reads_text (HR3.below hb4)
  rw [show pt [⟨#[97]⟩, ⟨#[98]⟩, ⟨#[99]⟩] 5 = [⟨#[97]⟩, ⟨#[99]⟩] by decide] at HO4
  rcases HO4.reads with ⟨h, _⟩ | ⟨b, off, cap, rfl, _, _, _, _, hc, _⟩
  · simp at h
  have c1 := hc 1 (by simp)
  simp only [List.getElem_cons_succ, List.getElem_cons_zero] at c1
  clear hb4 HO4 HR3 HR2 HS hc HW
  go_wp2_with fail
  go_ret
  exact ⟨by simp [go_sem], HB4.out⟩
end Go.Proofs.Ytbcdmammedabmaa
