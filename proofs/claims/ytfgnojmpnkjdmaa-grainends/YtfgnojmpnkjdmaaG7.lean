/- What the fixed calls of layer 3's 'alive' come to: true. -/
import Derived.Test.YtfgnojmpnkjdmaaG6
namespace Go.Proofs.Ytfgnojmpnkjdmaa
open Go.RowKit

def sz0 : Nat → Int | 0 => 1 | 1 => 10 | _ => 60
def ag0 : Nat → Int | 0 => 0 | 1 => 20 | _ => 100
def rl0 (b : Nat) : Rl := ⟨some ⟨b, 0, none⟩, 3, 3, sz0, ag0, 200⟩
def rlN : Rl := ⟨none, 0, 0, fun _ => 0, fun _ => 0, 0⟩
theorem right0 (b : Nat) : RightP (rl0 b) := by
  refine ⟨by show (1 : Nat) ≤ 3; omega, by show (3 : Nat) ≤ 4; omega, rfl, ?_, by show (100 : Int) ≤ 200; decide, by show (200 : Int) ≤ 2199023255552; decide⟩
  intro i hi
  have hi' : i < 3 := hi
  match i, hi' with
  | 0, _ => exact ⟨by show isS 1 = true; decide, by show isT 0 = true; decide, fun h => by omega⟩
  | 1, _ => exact ⟨by show isS 10 = true; decide, by show isT 20 = true; decide, fun _ => by show folB 1 0 10 20 = true; decide⟩
  | 2, _ => exact ⟨by show isS 60 = true; decide, by show isT 100 = true; decide, fun _ => by show folB 10 20 60 100 = true; decide⟩
theorem fE0 (b : Nat) (t w : Int) (ht : isT t = true) (hw : isT w = true) : fE (rl0 b) t w = 0 := fE_of (right0 b) ht hw
theorem step0 (b : Nat) : IsStep (rl0 b) 75 100 1 := by
  refine ⟨by show (1 : Nat) < 3; omega, .inr (by show endF 75 10 ≤ 100 - 20; decide), ?_⟩
  intro j h1 h2
  have h2' : j < 3 := h2
  have : j = 2 := by omega
  subst this
  show ¬ endF 75 60 ≤ 100 - 100
  decide
theorem fEN (t w : Int) : fE rlN t w = 30 := by
  unfold fE; rw [if_neg]; rintro ⟨h, _⟩; exact absurd (show (1 : Nat) ≤ 0 from h) (by omega)
theorem rlN_lies (w : World) : Lies rlN w.heap.size w := ⟨Nat.zero_le _, Nat.le_refl _, .inl rfl⟩


theorem bucket0 (b : Nat) (w : World) (hL : Lies (rl0 b) w.heap.size w) : Calls Try.prog 16 #[.agg #[.slice (some ⟨b, 0, none⟩) 3 3, .int .i64 200], .int .i64 75, .int .i64 100] w fun e w' => e = .returned (.tuple #[.int .i64 70, .int .i64 1, .int .i64 0]) ∧ Below w.heap.size w w' := by
  have h := bucket_any (rl0 b) 75 100 1 (fun _ => step0 b) w hL
  have e1 : buA (rl0 b) 75 100 1 = 70 := by unfold buA; rw [if_pos (fE0 b _ _ (by decide) (by decide))]; show (75 : Int) - 75 % 10 = 70; decide
  have e2 : stA (rl0 b) 75 100 1 = 1 := by unfold stA; rw [if_pos (fE0 b _ _ (by decide) (by decide))]; rfl
  rw [e1, e2, fE0 b _ _ (by decide) (by decide)] at h
  exact h
theorem expired0 (b : Nat) (t : Int) (ht : isT t = true) (r : Bool) (hr : decide (endF t 60 ≤ 260 - 200) = r) (w : World) (hL : Lies (rl0 b) w.heap.size w) : Calls Try.prog 18 #[.agg #[.slice (some ⟨b, 0, none⟩) 3 3, .int .i64 200], .int .i64 t, .int .i64 260] w fun e w' => e = .returned (.tuple #[.bool r, .int .i64 0]) ∧ Below w.heap.size w w' := by
  have h := expired_any (rl0 b) t 260 w hL
  have e1 : exA (rl0 b) t 260 = r := by unfold exA; rw [if_pos (fE0 b _ _ ht (by decide))]; exact hr
  rw [e1, fE0 b _ _ ht (by decide)] at h
  exact h
theorem stepN (w : World) : Calls Try.prog 14 #[.agg #[.slice none 0 0, .int .i64 0], .int .i64 0, .int .i64 0] w fun e w' => e = .returned (.tuple #[.int .i64 0, .int .i64 30]) ∧ Below w.heap.size w w' := by
  have h := step_any rlN 0 0 0 (fun h => by rw [fEN] at h; omega) w (rlN_lies w)
  have e1 : stA rlN 0 0 0 = 0 := by unfold stA; rw [if_neg (by rw [fEN]; omega)]
  rw [e1, fEN] at h
  exact h
theorem right0c (b : Nat) (w : World) (hL : Lies (rl0 b) w.heap.size w) : Calls Try.prog 12 #[.agg #[.slice (some ⟨b, 0, none⟩) 3 3, .int .i64 200]] w fun e w' => e = .returned (.bool true) ∧ Below w.heap.size w w' := by
  have h := right_any (rl0 b) w hL
  have e1 : decide (RightP (rl0 b)) = true := by simpa using right0 b
  rw [e1] at h
  exact h
theorem lies0 (w : World) (t1 t2 : TypeId) (o : Array Value) : Lies (rl0 w.heap.size) ((w.alloc (.cells #[.int .i64 1, .int .i64 0, .int .i64 10, .int .i64 20, .int .i64 60, .int .i64 100] t1)).alloc (.cells o t2)).heap.size ((w.alloc (.cells #[.int .i64 1, .int .i64 0, .int .i64 10, .int .i64 20, .int .i64 60, .int .i64 100] t1)).alloc (.cells o t2)) := by
  refine ⟨by show 3 ≤ maxLen; decide, Nat.le_refl _, .inr ⟨w.heap.size, 0, rfl, by simp; omega, ?_⟩⟩
  intro i hi
  have hi' : i < 3 := hi
  match i, hi' with
  | 0, _ => simp [go_sem, rl0, sz0, ag0, World.cell?_alloc_past]
  | 1, _ => simp [go_sem, rl0, sz0, ag0, World.cell?_alloc_past]
  | 2, _ => simp [go_sem, rl0, sz0, ag0, World.cell?_alloc_past]

set_option maxRecDepth 100000 in
set_option maxHeartbeats 1000000 in
theorem alive_any (w : World) : Calls Try.prog 11 #[] w fun e w' => e = .returned (.bool true) ∧ Below w.heap.size w w' := by
  go_enter Try.func11, Try.ntmps11
  go_wp2_with fail
  have HL0 : Hid _ := lies0 w 40 24 #[.slice (some ⟨w.heap.size, 0, none⟩) 3 3, .int .i64 200]
  have HB0 : Hid (∀ o1 o2, Below w.heap.size w ((w.alloc o1).alloc o2)) := fun o1 o2 => ((Below.refl _ _).alloc (by simp) _).alloc (by simp) _
  have HX0 : Hid (RBox (rl0 w.heap.size) (w.heap.size + 1) ((w.alloc (.cells #[.int .i64 1, .int .i64 0, .int .i64 10, .int .i64 20, .int .i64 60, .int .i64 100] 40)).alloc (.cells #[.slice (some ⟨w.heap.size, 0, none⟩) 3 3, .int .i64 200] 24))) := by
    refine ⟨by simp, ?_, ?_⟩ <;> simp [go_sem, rl0]
  refine (bucket0 w.heap.size _ HL0.out).mono ?_
  rintro e w1 ⟨rfl, hb1⟩
  have HL1 : Hid (Lies (rl0 w.heap.size) w1.heap.size w1) := Lies.at HL0.out hb1
  have HX1 : Hid (RBox (rl0 w.heap.size) (w.heap.size + 1) w1) := HX0.out.below hb1
  have HB1 : Hid (Below w.heap.size w w1) := (HB0.out _ _).trans (hb1.mono (by simp; omega))
  obtain ⟨_, c0, c1⟩ := HX1.out
  simp only [rl0] at c0 c1
  clear hb1 HB0 HX0 HL0
  go_wp2_with fail
  refine (expired0 w.heap.size 59 (by decide) true (by decide) _ HL1.out).mono ?_
  rintro e w2 ⟨rfl, hb2⟩
  have HL2 : Hid (Lies (rl0 w.heap.size) w2.heap.size w2) := HL1.out.at hb2
  have HX2 : Hid (RBox (rl0 w.heap.size) (w.heap.size + 1) w2) := HX1.out.below hb2
  have HB2 : Hid (Below w.heap.size w w2) := HB1.out.trans (hb2.mono HB1.out.size)
  clear c0 c1 hb2
  obtain ⟨_, c0, c1⟩ := HX2.out
  simp only [rl0] at c0 c1
  go_wp2_with fail
  refine (expired0 w.heap.size 60 (by decide) false (by decide) _ HL2.out).mono ?_
  rintro e w3 ⟨rfl, hb3⟩
  have HL3 : Hid (Lies (rl0 w.heap.size) w3.heap.size w3) := HL2.out.at hb3
  have HX3 : Hid (RBox (rl0 w.heap.size) (w.heap.size + 1) w3) := HX2.out.below hb3
  have HB3 : Hid (Below w.heap.size w w3) := HB2.out.trans (hb3.mono HB2.out.size)
  clear c0 c1 hb3
  obtain ⟨_, c0, c1⟩ := HX3.out
  simp only [rl0] at c0 c1
  go_wp2_with fail
  refine (stepN _).mono ?_
  rintro e w4 ⟨rfl, hb4⟩
  have HL4 : Hid (Lies (rl0 w.heap.size) w4.heap.size w4) := HL3.out.at hb4
  have HX4 : Hid (RBox (rl0 w.heap.size) (w.heap.size + 1) w4) := HX3.out.below hb4
  have HB4 : Hid (Below w.heap.size w w4) := HB3.out.trans (hb4.mono HB3.out.size)
  clear c0 c1 hb4
  obtain ⟨_, c0, c1⟩ := HX4.out
  simp only [rl0] at c0 c1
  go_wp2_with fail
  refine (right0c w.heap.size _ HL4.out).mono ?_
  rintro e w5 ⟨rfl, hb5⟩
  have HB5 : Hid (Below w.heap.size w w5) := HB4.out.trans (hb5.mono HB4.out.size)
  clear c0 c1 hb5
  go_wp2_with fail
  go_ret
  exact ⟨rfl, HB5.out⟩

theorem row_b {R : Rl} {w : World} {N : Nat} (hR : RightP R) (hL : Lies R N w) : ∃ b off, R.a = some ⟨b, off, none⟩ := by
  obtain ⟨_, _, hc⟩ := hL
  rcases hc with hc | ⟨b, off, ha, _, hc⟩
  · have := hR.1; omega
  · exact ⟨b, off, ha⟩
theorem row_at {R : Rl} {w : World} {N b off : Nat} (ha : R.a = some ⟨b, off, none⟩) (hL : Lies R N w) {k : Nat} (hk : k < R.len) : w.cell? ⟨b, off + k * 2, none⟩ = some (.int .i64 (R.sz k)) ∧ w.cell? ⟨b, off + k * 2 + 1, none⟩ = some (.int .i64 (R.ag k)) := by
  obtain ⟨_, _, hc⟩ := hL
  rcases hc with hc | ⟨b', off', ha', _, hc⟩
  · omega
  · rw [ha] at ha'
    obtain ⟨rfl, rfl⟩ : b = b' ∧ off = off' := by simp at ha'; exact ha'
    exact hc k hk
theorem floorV_ok {t s : Int} (ht : isT t = true) (hs : isS s = true) : floorV t s = .tuple #[.int .i64 (t - t % s), .int .i64 0] := by
  unfold floorV; rw [ht, hs]; rfl
theorem floorV_no {t s : Int} (ht : isT t = false) : floorV t s = .tuple #[.int .i64 0, .int .i64 1] := by
  unfold floorV; rw [ht]; rfl
end Go.Proofs.Ytfgnojmpnkjdmaa
