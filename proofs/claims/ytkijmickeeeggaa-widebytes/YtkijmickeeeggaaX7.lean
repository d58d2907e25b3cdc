/- The walk of WideBytes. -/
import Derived.Test.YtkijmickeeeggaaX5
import Derived.Test.YtkijmickeeeggaaX6
import Derived.Test.YtkijmickeeeggaaOZ
namespace Go.Proofs.Ytkijmickeeeggaa
open Go.RowKit

/-- A pair of numbers in memory. -/
def QBox (p q : Int) (b : Nat) (w : World) : Prop := b < w.heap.size ∧ w.cell? ⟨b, 0, none⟩ = some (.int .i64 p) ∧ w.cell? ⟨b, 1, none⟩ = some (.int .u64 q)
theorem QBox.below {p q : Int} {b : Nat} {w1 w2 : World} (h : QBox p q b w1) (hb : Below w1.heap.size w1 w2) : QBox p q b w2 := by
  obtain ⟨h0, h1, h2⟩ := h
  have := hb.size
  exact ⟨by omega, (hb.cell (p := ⟨b, 0, none⟩) h0).trans h1, (hb.cell (p := ⟨b, 1, none⟩) h0).trans h2⟩
theorem QBox.new (p q : Int) (w : World) (t : TypeId) : QBox p q w.heap.size (w.alloc (.cells #[.int .i64 p, .int .u64 q] t)) := ⟨by simp, by simp [go_sem], by simp [go_sem]⟩
theorem allocBelow (w : World) (o : Obj) : Below w.heap.size w (w.alloc o) := (Below.refl _ _).alloc (Nat.le_refl _) _
set_option maxRecDepth 100000 in
set_option maxHeartbeats 4000000 in
theorem bytesWalk (x : Int) (v : Value) (l : List UInt8) (w : World) (_ : -170141183460469231731687303715884105728 ≤ x) (_ : x < 170141183460469231731687303715884105728) (hv : Reads w v l) :
    Calls Try.prog 6 #[.agg #[.int .i64 (hi x), .int .u64 (lo x)], v] w fun e w' => e = .returned (.bool true) ∧ Below w.heap.size w w' := by
  obtain ⟨ra, HRA⟩ : ∃ r, Hid (r = rdA l) := ⟨_, rfl⟩
  obtain ⟨rb, HRB⟩ : ∃ r, Hid (r = rdB l) := ⟨_, rfl⟩
  obtain ⟨re, HRE⟩ : ∃ r, Hid (r = rdE l) := ⟨_, rfl⟩
  have K1 : Hid (∀ w, Reads w v l → Calls Try.prog 24 #[v] w fun e w' => e = .returned (.tuple #[.agg #[.int .i64 ra, .int .u64 rb], .int .i64 re]) ∧ Below w.heap.size w w') := by
    intro w h; rw [HRA.out, HRB.out, HRE.out]; exact wideRead_any v l w h
  have K2 : Hid (∀ w, Reads w v l → Calls Try.prog 25 #[v] w fun e w' => e = .returned (.tuple #[.agg #[.int .i64 ra, .int .u64 rb], .int .i64 re]) ∧ Below w.heap.size w w') := by
    intro w h; rw [HRA.out, HRB.out, HRE.out]; exact refRead_any v l w h
  clear HRA HRB HRE
  have HV : Hid (Reads w v l) := hv
  clear hv
  go_enter Try.func6, Try.ntmps6
  go_wp2_with fail
  have B0 : ∀ o, Below w.heap.size w (w.alloc o) := fun o => (Below.refl _ _).alloc (Nat.le_refl _) _
  refine (K1.out _ (HV.out.alloc _)).mono ?_
  rintro e w1 ⟨rfl, b1⟩
  have BX1 : Hid (WBox x w.heap.size w1) := WBox.below ⟨by simp, by simp [go_sem], by simp [go_sem]⟩ b1
  have HB1 : Hid (Below w.heap.size w w1) := (B0 _).trans (b1.mono (by simp))
  have HV1 : Hid (Reads w1 v l) := HV.out.below HB1.out
  clear b1 B0 HV
  go_wp2_with fail
  refine (K2.out _ (HV1.out.alloc _)).mono ?_
  rintro e w2 ⟨rfl, b2⟩
  have QX2 : Hid (QBox ra rb w1.heap.size w2) := (QBox.new ra rb w1 _).below b2
  have BX2 : Hid (WBox x w.heap.size w2) := (BX1.out.below (allocBelow w1 _)).below b2
  have HB2 : Hid (Below w.heap.size w w2) := (HB1.out.alloc HB1.out.size _).trans (b2.mono (by have := HB1.out.size; simp; omega))
  clear b2 BX1 HB1 HV1 K1 K2
  go_wp2_with fail
  refine wp_region_noPanic ?_
  refine wp_region_held_drew (S := (fun w' => Below w.heap.size w w' ∧ WBox x w.heap.size w' ∧ QBox ra rb w1.heap.size w' ∧ QBox ra rb w2.heap.size w')) (by kernel_rfl) ?_ (fun hHeld => ?_)
  · exact ⟨(HB2.out.alloc HB2.out.size _).drew, BX2.out.below (allocBelow w2 _).drew, QX2.out.below (allocBelow w2 _).drew, QBox.new ra rb w2 _⟩
  refine wpAnyH_ready (rs := [0]) (by kernel_rfl) (by simp) ?_
  refine AllReadyH.cons (o := _) rfl (fun K hK => ?_) AllReadyH.nil
  go_simp
  refine (alive_any _).mono ?_
  rintro e w3 ⟨rfl, b3⟩
  go_wp2_with fail
  refine hK.out _ _ ?_ (fun hHeld => ?_)
  · exact ⟨hHeld.1.trans (b3.mono hHeld.1.size), hHeld.2.1.below b3, hHeld.2.2.1.below b3, hHeld.2.2.2.below b3⟩
  clear hK K
  clear b3
  refine wpAnyH_take (i := 1) (v := .bool true) rfl (by kernel_rfl) (by kernel_rfl) (by kernel_rfl) (fun _ _ _ h => h) (Or.inl ⟨by rfl, ?_⟩) (by assumption) ?_
  · (intro w1 hSw; (try dsimp only at hSw); go_simp)
  simp only [List.getElem_toArray, List.getElem_cons_succ, List.getElem_cons_zero, Act.put, List.setIfInBounds_toArray, List.set_cons_zero, List.set_cons_succ]
  refine wpAnyH_take (i := 2) (v := .agg #[.int .i64 (hi x), .int .u64 (lo x)]) rfl (by kernel_rfl) (by kernel_rfl) (by kernel_rfl) (fun _ _ _ h => h) (Or.inl ⟨by rfl, ?_⟩) (by assumption) ?_
  · (intro w1 hSw; (try dsimp only at hSw); have c0 := hSw.2.1.2.1; have c1 := hSw.2.1.2.2; go_simp)
  simp only [List.getElem_toArray, List.getElem_cons_succ, List.getElem_cons_zero, Act.put, List.setIfInBounds_toArray, List.set_cons_zero, List.set_cons_succ]
  refine wpAnyH_take (i := 5) (v := .agg #[.int .i64 (hi x), .int .u64 (lo x)]) rfl (by kernel_rfl) (by kernel_rfl) (by kernel_rfl) (fun _ _ _ h => h) (Or.inl ⟨by rfl, ?_⟩) (by assumption) ?_
  · (intro w1 hSw; (try dsimp only at hSw); have c0 := hSw.2.1.2.1; have c1 := hSw.2.1.2.2; go_simp)
  simp only [List.getElem_toArray, List.getElem_cons_succ, List.getElem_cons_zero, Act.put, List.setIfInBounds_toArray, List.set_cons_zero, List.set_cons_succ]
  refine wpAnyH_ready (rs := [3]) (by kernel_rfl) (by simp) ?_
  refine AllReadyH.cons (o := _) rfl (fun K hK => ?_) AllReadyH.nil
  go_simp
  refine (write16 x _).mono ?_
  rintro e w4 ⟨g1, p1, rfl, r4, b4⟩
  go_wp2_with fail
  refine hK.out _ _ ?_ (fun hHeld => ?_)
  · exact ⟨hHeld.1.trans (b4.mono hHeld.1.size), hHeld.2.1.below b4, hHeld.2.2.1.below b4, hHeld.2.2.2.below b4⟩
  clear hK K
  have R4 : Hid (Reads w4 (.slice (some ⟨g1, 0, none⟩) 16 p1) (b16 x)) := r4.reads
  clear r4 b4
  refine wpAnyH_sub (S' := fun w' => (Below w.heap.size w w' ∧ WBox x w.heap.size w' ∧ QBox ra rb w1.heap.size w' ∧ QBox ra rb w2.heap.size w') ∧ (Reads w' (.slice (some ⟨g1, 0, none⟩) 16 p1) (b16 x))) (fun _ h => h.1) _ _ _ _ ?_
  have hHeld : (Below w.heap.size w w4 ∧ WBox x w.heap.size w4 ∧ QBox ra rb w1.heap.size w4 ∧ QBox ra rb w2.heap.size w4) ∧ (Reads w4 (.slice (some ⟨g1, 0, none⟩) 16 p1) (b16 x)) := ⟨hHeld, R4.out⟩
  refine wpAnyH_take (i := 4) (v := .string ⟨(b16 x).toArray⟩) rfl (by kernel_rfl) (by kernel_rfl) (by kernel_rfl) (fun _ _ _ h => h) (Or.inl ⟨by rfl, ?_⟩) (by assumption) ?_
  · (intro w1 hSw; (try dsimp only at hSw); have hcv := reads_text hSw.2; go_simp)
  simp only [List.getElem_toArray, List.getElem_cons_succ, List.getElem_cons_zero, Act.put, List.setIfInBounds_toArray, List.set_cons_zero, List.set_cons_succ]
  refine wpAnyH_ready (rs := [6]) (by kernel_rfl) (by simp) ?_
  refine AllReadyH.cons (o := _) rfl (fun K hK => ?_) AllReadyH.nil
  go_simp
  refine (refWrite16 x _).mono ?_
  rintro e w5 ⟨g2, p2, rfl, r5, b5⟩
  go_wp2_with fail
  refine hK.out _ _ ?_ (fun hHeld => ?_)
  · exact ⟨⟨hHeld.1.1.trans (b5.mono hHeld.1.1.size), hHeld.1.2.1.below b5, hHeld.1.2.2.1.below b5, hHeld.1.2.2.2.below b5⟩, hHeld.2.below b5⟩
  clear hK K
  have R5 : Hid (Reads w5 (.slice (some ⟨g2, 0, none⟩) 16 p2) (b16 x)) := r5.reads
  clear r5 b5
  refine wpAnyH_sub (S' := fun w' => ((Below w.heap.size w w' ∧ WBox x w.heap.size w' ∧ QBox ra rb w1.heap.size w' ∧ QBox ra rb w2.heap.size w') ∧ (Reads w' (.slice (some ⟨g1, 0, none⟩) 16 p1) (b16 x))) ∧ (Reads w' (.slice (some ⟨g2, 0, none⟩) 16 p2) (b16 x))) (fun _ h => h.1) _ _ _ _ ?_
  have hHeld : ((Below w.heap.size w w5 ∧ WBox x w.heap.size w5 ∧ QBox ra rb w1.heap.size w5 ∧ QBox ra rb w2.heap.size w5) ∧ (Reads w5 (.slice (some ⟨g1, 0, none⟩) 16 p1) (b16 x))) ∧ (Reads w5 (.slice (some ⟨g2, 0, none⟩) 16 p2) (b16 x)) := ⟨hHeld, R5.out⟩
  refine wpAnyH_take (i := 7) (v := .string ⟨(b16 x).toArray⟩) rfl (by kernel_rfl) (by kernel_rfl) (by kernel_rfl) (fun _ _ _ h => h) (Or.inl ⟨by rfl, ?_⟩) (by assumption) ?_
  · (intro w1 hSw; (try dsimp only at hSw); have hcv := reads_text hSw.2; go_simp)
  simp only [List.getElem_toArray, List.getElem_cons_succ, List.getElem_cons_zero, Act.put, List.setIfInBounds_toArray, List.set_cons_zero, List.set_cons_succ]
  refine wpAnyH_take (i := 8) (v := .bool true) rfl (by kernel_rfl) (by kernel_rfl) (by kernel_rfl) (fun _ _ _ h => h) (Or.inl ⟨by rfl, ?_⟩) (by assumption) ?_
  · (intro w1 hSw; (try dsimp only at hSw); go_simp)
  simp only [List.getElem_toArray, List.getElem_cons_succ, List.getElem_cons_zero, Act.put, List.setIfInBounds_toArray, List.set_cons_zero, List.set_cons_succ]
  refine wpAnyH_take (i := 9) (v := .bool true) rfl (by kernel_rfl) (by kernel_rfl) (by kernel_rfl) (fun _ _ _ h => h) (Or.inl ⟨by rfl, ?_⟩) (by assumption) ?_
  · (intro w1 hSw; (try dsimp only at hSw); go_simp)
  simp only [List.getElem_toArray, List.getElem_cons_succ, List.getElem_cons_zero, Act.put, List.setIfInBounds_toArray, List.set_cons_zero, List.set_cons_succ]
  refine wpAnyH_take (i := 10) (v := .bool true) rfl (by kernel_rfl) (by kernel_rfl) (by kernel_rfl) (fun _ _ _ h => h) (Or.inl ⟨by rfl, ?_⟩) (by assumption) ?_
  · (intro w1 hSw; (try dsimp only at hSw); go_simp)
  simp only [List.getElem_toArray, List.getElem_cons_succ, List.getElem_cons_zero, Act.put, List.setIfInBounds_toArray, List.set_cons_zero, List.set_cons_succ]
  refine wpAnyH_take (i := 11) (v := .agg #[.int .i64 ra, .int .u64 rb]) rfl (by kernel_rfl) (by kernel_rfl) (by kernel_rfl) (fun _ _ _ h => h) (Or.inl ⟨by rfl, ?_⟩) (by assumption) ?_
  · (intro w1 hSw; (try dsimp only at hSw); have c0 := hSw.1.1.2.2.1.2.1; have c1 := hSw.1.1.2.2.1.2.2; go_simp)
  simp only [List.getElem_toArray, List.getElem_cons_succ, List.getElem_cons_zero, Act.put, List.setIfInBounds_toArray, List.set_cons_zero, List.set_cons_succ]
  refine wpAnyH_take (i := 12) (v := .agg #[.int .i64 ra, .int .u64 rb]) rfl (by kernel_rfl) (by kernel_rfl) (by kernel_rfl) (fun _ _ _ h => h) (Or.inl ⟨by rfl, ?_⟩) (by assumption) ?_
  · (intro w1 hSw; (try dsimp only at hSw); have c0 := hSw.1.1.2.2.2.2.1; have c1 := hSw.1.1.2.2.2.2.2; go_simp)
  simp only [List.getElem_toArray, List.getElem_cons_succ, List.getElem_cons_zero, Act.put, List.setIfInBounds_toArray, List.set_cons_zero, List.set_cons_succ]
  refine wpAnyH_take (i := 13) (v := .bool true) rfl (by kernel_rfl) (by kernel_rfl) (by kernel_rfl) (fun _ _ _ h => h) (Or.inl ⟨by rfl, ?_⟩) (by assumption) ?_
  · (intro w1 hSw; (try dsimp only at hSw); go_simp)
  simp only [List.getElem_toArray, List.getElem_cons_succ, List.getElem_cons_zero, Act.put, List.setIfInBounds_toArray, List.set_cons_zero, List.set_cons_succ]
  refine wpAnyH_take (i := 14) (v := .bool true) rfl (by kernel_rfl) (by kernel_rfl) (by kernel_rfl) (fun _ _ _ h => h) (Or.inl ⟨by rfl, ?_⟩) (by assumption) ?_
  · (intro w1 hSw; (try dsimp only at hSw); go_simp)
  simp only [List.getElem_toArray, List.getElem_cons_succ, List.getElem_cons_zero, Act.put, List.setIfInBounds_toArray, List.set_cons_zero, List.set_cons_succ]
  refine wpAnyH_take (i := 15) (v := .bool true) rfl (by kernel_rfl) (by kernel_rfl) (by kernel_rfl) (fun _ _ _ h => h) (Or.inl ⟨by rfl, ?_⟩) (by assumption) ?_
  · (intro w1 hSw; (try dsimp only at hSw); go_simp)
  simp only [List.getElem_toArray, List.getElem_cons_succ, List.getElem_cons_zero, Act.put, List.setIfInBounds_toArray, List.set_cons_zero, List.set_cons_succ]
  refine wpAnyH_take (i := 16) (v := .int .i64 re) rfl (by kernel_rfl) (by kernel_rfl) (by kernel_rfl) (fun _ _ _ h => h) (Or.inl ⟨by rfl, ?_⟩) (by assumption) ?_
  · (intro w1 hSw; (try dsimp only at hSw); go_simp)
  simp only [List.getElem_toArray, List.getElem_cons_succ, List.getElem_cons_zero, Act.put, List.setIfInBounds_toArray, List.set_cons_zero, List.set_cons_succ]
  refine wpAnyH_take (i := 17) (v := .int .i64 re) rfl (by kernel_rfl) (by kernel_rfl) (by kernel_rfl) (fun _ _ _ h => h) (Or.inl ⟨by rfl, ?_⟩) (by assumption) ?_
  · (intro w1 hSw; (try dsimp only at hSw); go_simp)
  simp only [List.getElem_toArray, List.getElem_cons_succ, List.getElem_cons_zero, Act.put, List.setIfInBounds_toArray, List.set_cons_zero, List.set_cons_succ]
  refine wpAnyH_take (i := 18) (v := .bool true) rfl (by kernel_rfl) (by kernel_rfl) (by kernel_rfl) (fun _ _ _ h => h) (Or.inl ⟨by rfl, ?_⟩) (by assumption) ?_
  · (intro w1 hSw; (try dsimp only at hSw); go_simp)
  simp only [List.getElem_toArray, List.getElem_cons_succ, List.getElem_cons_zero, Act.put, List.setIfInBounds_toArray, List.set_cons_zero, List.set_cons_succ]
  refine wpAnyH_take (i := 19) (v := .bool true) rfl (by kernel_rfl) (by kernel_rfl) (by kernel_rfl) (fun _ _ _ h => h) (Or.inl ⟨by rfl, ?_⟩) (by assumption) ?_
  · (intro w1 hSw; (try dsimp only at hSw); go_simp)
  simp only [List.getElem_toArray, List.getElem_cons_succ, List.getElem_cons_zero, Act.put, List.setIfInBounds_toArray, List.set_cons_zero, List.set_cons_succ]
  refine wpAnyH_take (i := 20) (v := .bool true) rfl (by kernel_rfl) (by kernel_rfl) (by kernel_rfl) (fun _ _ _ h => h) (Or.inl ⟨by rfl, ?_⟩) (by assumption) ?_
  · (intro w1 hSw; (try dsimp only at hSw); go_simp)
  simp only [List.getElem_toArray, List.getElem_cons_succ, List.getElem_cons_zero, Act.put, List.setIfInBounds_toArray, List.set_cons_zero, List.set_cons_succ]
  refine wpAnyH_done (by kernel_rfl) ?_ _
  refine NoPanic.normal ?_
  go_wp2_with fail
  go_ret
  exact ⟨rfl, hHeld.1.1.1⟩
end Go.Proofs.Ytkijmickeeeggaa
