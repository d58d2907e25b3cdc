/- The walks of GrainRight, GrainSteps and GrainEnds. -/
import Derived.Test.YtfgnojmpnkjdmaaH3
import Derived.Test.YtfgnojmpnkjdmaaOR
namespace Go.Proofs.Ytfgnojmpnkjdmaa
open Go.RowKit

theorem has_step (R : Rl) (t wm : Int) : ∃ K, Hid (fE R t wm = 0 → IsStep R t wm K) := by
  by_cases h0 : fE R t wm = 0
  · obtain ⟨K, hK⟩ := step_exists (fE_ok h0).1 t wm; exact ⟨K, fun _ => hK⟩
  · exact ⟨0, fun h => absurd h h0⟩
set_option maxRecDepth 100000 in
set_option maxHeartbeats 1000000 in
theorem stepsWalk (R : Rl) (t wm : Int) (w : World) (hL : Lies R w.heap.size w) :
    Calls Try.prog 4 #[.agg #[.slice R.a R.len R.cap, .int .i64 R.kp], .int .i64 t, .int .i64 wm] w fun e w' => e = .returned (.bool true) ∧ Below w.heap.size w w' := by
  obtain ⟨K, HK⟩ := has_step R t wm
  have HL : Hid (Lies R w.heap.size w) := hL
  have HB0 : Hid (Below w.heap.size w (w.alloc (.cells #[.slice R.a R.len R.cap, .int .i64 R.kp] 24))) := new_below _ _
  have HX0 : Hid (RBox R w.heap.size (w.alloc (.cells #[.slice R.a R.len R.cap, .int .i64 R.kp] 24))) := RBox.new R w _
  have HL0 : Hid (Lies R (w.alloc (.cells #[.slice R.a R.len R.cap, .int .i64 R.kp] 24)).heap.size (w.alloc (.cells #[.slice R.a R.len R.cap, .int .i64 R.kp] 24))) := HL.out.at HB0.out
  clear hL
  go_enter Try.func4, Try.ntmps4
  go_wp2_with fail
  refine (step_any R t wm K HK.out _ HL0.out).mono ?_
  rintro e w1 ⟨rfl, hb1⟩
  have HB1 : Hid (Below w.heap.size w w1) := HB0.out.trans (hb1.mono HB0.out.size)
  have HX1 : Hid (RBox R w.heap.size w1) := HX0.out.below hb1
  have HL1 : Hid (Lies R w1.heap.size w1) := HL.out.at HB1.out
  clear hb1
  (try clear c0 c1)
  obtain ⟨_, c0, c1⟩ := HX1.out
  go_wp2_with fail
  refine (refStep_any R t wm K HK.out _ HL1.out).mono ?_
  rintro e w2 ⟨rfl, hb2⟩
  have HB2 : Hid (Below w.heap.size w w2) := HB1.out.trans (hb2.mono HB1.out.size)
  have HX2 : Hid (RBox R w.heap.size w2) := HX1.out.below hb2
  have HL2 : Hid (Lies R w2.heap.size w2) := HL.out.at HB2.out
  clear hb2
  (try clear c0 c1)
  obtain ⟨_, c0, c1⟩ := HX2.out
  go_wp2_with fail
  refine (bucket_any R t wm K HK.out _ HL2.out).mono ?_
  rintro e w3 ⟨rfl, hb3⟩
  have HB3 : Hid (Below w.heap.size w w3) := HB2.out.trans (hb3.mono HB2.out.size)
  have HX3 : Hid (RBox R w.heap.size w3) := HX2.out.below hb3
  have HL3 : Hid (Lies R w3.heap.size w3) := HL.out.at HB3.out
  clear hb3
  (try clear c0 c1)
  obtain ⟨_, c0, c1⟩ := HX3.out
  go_wp2_with fail
  refine (refBucket_any R t wm K HK.out _ HL3.out).mono ?_
  rintro e w4 ⟨rfl, hb4⟩
  have HB4 : Hid (Below w.heap.size w w4) := HB3.out.trans (hb4.mono HB3.out.size)
  have HX4 : Hid (RBox R w.heap.size w4) := HX3.out.below hb4
  have HL4 : Hid (Lies R w4.heap.size w4) := HL.out.at HB4.out
  clear hb4
  (try clear c0 c1)
  obtain ⟨_, c0, c1⟩ := HX4.out
  go_wp2_with fail
  refine (expired_any R t wm _ HL4.out).mono ?_
  rintro e w5 ⟨rfl, hb5⟩
  have HB5 : Hid (Below w.heap.size w w5) := HB4.out.trans (hb5.mono HB4.out.size)
  have HX5 : Hid (RBox R w.heap.size w5) := HX4.out.below hb5
  have HL5 : Hid (Lies R w5.heap.size w5) := HL.out.at HB5.out
  clear hb5
  (try clear c0 c1)
  obtain ⟨_, c0, c1⟩ := HX5.out
  go_wp2_with fail
  refine (refExpired_any R t wm _ HL5.out).mono ?_
  rintro e w6 ⟨rfl, hb6⟩
  have HB6 : Hid (Below w.heap.size w w6) := HB5.out.trans (hb6.mono HB5.out.size)
  have HX6 : Hid (RBox R w.heap.size w6) := HX5.out.below hb6
  have HL6 : Hid (Lies R w6.heap.size w6) := HL.out.at HB6.out
  clear hb6
  (try clear c0 c1)
  obtain ⟨_, c0, c1⟩ := HX6.out
  go_wp2_with fail
  refine (alive_any _).mono ?_
  rintro e w7 ⟨rfl, hb7⟩
  have HB7 : Hid (Below w.heap.size w w7) := HB6.out.trans (hb7.mono HB6.out.size)
  have HX7 : Hid (RBox R w.heap.size w7) := HX6.out.below hb7
  have HL7 : Hid (Lies R w7.heap.size w7) := HL.out.at HB7.out
  clear hb7
  (try clear c0 c1)
  obtain ⟨_, c0, c1⟩ := HX7.out
  go_wp2_with fail
  go_ret
  exact ⟨rfl, HB7.out⟩
set_option maxRecDepth 100000 in
set_option maxHeartbeats 1000000 in
theorem endsWalk (R : Rl) (t s : Int) (w : World) (hL : Lies R w.heap.size w) :
    Calls Try.prog 5 #[.agg #[.slice R.a R.len R.cap, .int .i64 R.kp], .int .i64 t, .int .i64 s] w fun e w' => e = .returned (.bool true) ∧ Below w.heap.size w w' := by
  have HL : Hid (Lies R w.heap.size w) := hL
  have HB0 : Hid (Below w.heap.size w (w.alloc (.cells #[.slice R.a R.len R.cap, .int .i64 R.kp] 24))) := new_below _ _
  have HX0 : Hid (RBox R w.heap.size (w.alloc (.cells #[.slice R.a R.len R.cap, .int .i64 R.kp] 24))) := RBox.new R w _
  have HL0 : Hid (Lies R (w.alloc (.cells #[.slice R.a R.len R.cap, .int .i64 R.kp] 24)).heap.size (w.alloc (.cells #[.slice R.a R.len R.cap, .int .i64 R.kp] 24))) := HL.out.at HB0.out
  clear hL
  go_enter Try.func5, Try.ntmps5
  go_wp2_with fail
  refine (end_call R t s _ HL0.out).mono ?_
  rintro e w1 ⟨rfl, hb1⟩
  have HB1 : Hid (Below w.heap.size w w1) := HB0.out.trans (hb1.mono HB0.out.size)
  have HX1 : Hid (RBox R w.heap.size w1) := HX0.out.below hb1
  have HL1 : Hid (Lies R w1.heap.size w1) := HL.out.at HB1.out
  clear hb1
  (try clear c0 c1)
  obtain ⟨_, c0, c1⟩ := HX1.out
  go_wp2_with fail
  refine (refEnd_any R t s _ HL1.out).mono ?_
  rintro e w2 ⟨rfl, hb2⟩
  have HB2 : Hid (Below w.heap.size w w2) := HB1.out.trans (hb2.mono HB1.out.size)
  have HX2 : Hid (RBox R w.heap.size w2) := HX1.out.below hb2
  have HL2 : Hid (Lies R w2.heap.size w2) := HL.out.at HB2.out
  clear hb2
  (try clear c0 c1)
  obtain ⟨_, c0, c1⟩ := HX2.out
  go_wp2_with fail
  refine (alive_any _).mono ?_
  rintro e w3 ⟨rfl, hb3⟩
  have HB3 : Hid (Below w.heap.size w w3) := HB2.out.trans (hb3.mono HB2.out.size)
  have HX3 : Hid (RBox R w.heap.size w3) := HX2.out.below hb3
  have HL3 : Hid (Lies R w3.heap.size w3) := HL.out.at HB3.out
  clear hb3
  (try clear c0 c1)
  obtain ⟨_, c0, c1⟩ := HX3.out
  go_wp2_with fail
  go_ret
  exact ⟨rfl, HB3.out⟩
theorem of_held {A B C : Prop} {N : Nat} {w w' : World} (h : A ∧ B ∧ C ∧ Below N w w') : Below N w w' := h.2.2.2
theorem heldR {N : Nat} {A B : Value} {w w1 w2 : World} (hb : Below w1.heap.size w1 w2) (h : w1.cell? ⟨N, 0, none⟩ = some A ∧ w1.cell? ⟨N, 1, none⟩ = some B ∧ N < w1.heap.size ∧ Below N w w1) :
    w2.cell? ⟨N, 0, none⟩ = some A ∧ w2.cell? ⟨N, 1, none⟩ = some B ∧ N < w2.heap.size ∧ Below N w w2 := by
  obtain ⟨h1, h2, h3, h4⟩ := h
  have := hb.size
  exact ⟨(hb.cell (p := ⟨N, 0, none⟩) h3).trans h1, (hb.cell (p := ⟨N, 1, none⟩) h3).trans h2, by omega, h4.trans (hb.mono (by omega))⟩
set_option maxRecDepth 100000 in
set_option maxHeartbeats 1000000 in
theorem rightWalk (R : Rl) (t s : Int) (w : World) (hL : Lies R w.heap.size w) :
    Calls Try.prog 3 #[.agg #[.slice R.a R.len R.cap, .int .i64 R.kp], .int .i64 t, .int .i64 s] w fun e w' => e = .returned (.bool true) ∧ Below w.heap.size w w' := by
  have EF : Hid (floorV t s = .tuple #[.int .i64 (if isT t && isS s then t - t % s else 0), .int .i64 (if isT t && isS s then 0 else 1)]) := rfl
  generalize (if (isT t && isS s) = true then t - t % s else 0) = fa at EF
  generalize (if (isT t && isS s) = true then (0 : Int) else 1) = fe at EF
  generalize hd : decide (RightP R) = rr
  have HD : Hid (decide (RightP R) = rr) := hd
  clear hd
  cases rr
  · skip
    have HL : Hid (Lies R w.heap.size w) := hL
    have HB0 : Hid (Below w.heap.size w (w.alloc (.cells #[.slice R.a R.len R.cap, .int .i64 R.kp] 24))) := new_below _ _
    have HX0 : Hid (RBox R w.heap.size (w.alloc (.cells #[.slice R.a R.len R.cap, .int .i64 R.kp] 24))) := RBox.new R w _
    have HL0 : Hid (Lies R (w.alloc (.cells #[.slice R.a R.len R.cap, .int .i64 R.kp] 24)).heap.size (w.alloc (.cells #[.slice R.a R.len R.cap, .int .i64 R.kp] 24))) := HL.out.at HB0.out
    clear hL
    go_enter Try.func3, Try.ntmps3
    go_wp2_with fail
    refine (floor_any t s _).mono ?_
    rw [EF.out]
    rintro e w' ⟨rfl, hw'⟩
    subst w'
    go_wp2_with fail
    refine (refFloor_any t s _).mono ?_
    rw [EF.out]
    rintro e w' ⟨rfl, hw'⟩
    subst w'
    go_wp2_with fail
    obtain ⟨b0, c0, c1⟩ := HX0.out
    go_region_held3 (fun w' => w'.cell? ⟨w.heap.size, 0, none⟩ = some (.slice R.a R.len R.cap) ∧ w'.cell? ⟨w.heap.size, 1, none⟩ = some (.int .i64 R.kp) ∧ w.heap.size < w'.heap.size ∧ Below w.heap.size w w') (first | exact ⟨c0, c1, b0, HB0.out.drew⟩ | exact heldR hb (by assumption))
      (first
        | (go_at_call 11; refine (alive_any _).mono ?_; rintro e w' ⟨rfl, hb⟩)
        | (go_at_call 12; refine (right_any R _ (HL.out.at (of_held (by assumption)))).mono ?_; rw [HD.out]; rintro e w' ⟨rfl, hb⟩)
        | (go_at_call 13; refine (refRight_any R _ (HL.out.at (of_held (by assumption)))).mono ?_; rw [HD.out]; rintro e w' ⟨rfl, hb⟩))
    rename_i HZ
    go_wp2_with fail
    go_ret
    exact ⟨rfl, HZ.2.2.2⟩
  · skip
    have HL : Hid (Lies R w.heap.size w) := hL
    have HB0 : Hid (Below w.heap.size w (w.alloc (.cells #[.slice R.a R.len R.cap, .int .i64 R.kp] 24))) := new_below _ _
    have HX0 : Hid (RBox R w.heap.size (w.alloc (.cells #[.slice R.a R.len R.cap, .int .i64 R.kp] 24))) := RBox.new R w _
    have HL0 : Hid (Lies R (w.alloc (.cells #[.slice R.a R.len R.cap, .int .i64 R.kp] 24)).heap.size (w.alloc (.cells #[.slice R.a R.len R.cap, .int .i64 R.kp] 24))) := HL.out.at HB0.out
    clear hL
    go_enter Try.func3, Try.ntmps3
    go_wp2_with fail
    refine (floor_any t s _).mono ?_
    rw [EF.out]
    rintro e w' ⟨rfl, hw'⟩
    subst w'
    go_wp2_with fail
    refine (refFloor_any t s _).mono ?_
    rw [EF.out]
    rintro e w' ⟨rfl, hw'⟩
    subst w'
    go_wp2_with fail
    obtain ⟨b0, c0, c1⟩ := HX0.out
    go_region_held3 (fun w' => w'.cell? ⟨w.heap.size, 0, none⟩ = some (.slice R.a R.len R.cap) ∧ w'.cell? ⟨w.heap.size, 1, none⟩ = some (.int .i64 R.kp) ∧ w.heap.size < w'.heap.size ∧ Below w.heap.size w w') (first | exact ⟨c0, c1, b0, HB0.out.drew⟩ | exact heldR hb (by assumption))
      (first
        | (go_at_call 11; refine (alive_any _).mono ?_; rintro e w' ⟨rfl, hb⟩)
        | (go_at_call 12; refine (right_any R _ (HL.out.at (of_held (by assumption)))).mono ?_; rw [HD.out]; rintro e w' ⟨rfl, hb⟩)
        | (go_at_call 13; refine (refRight_any R _ (HL.out.at (of_held (by assumption)))).mono ?_; rw [HD.out]; rintro e w' ⟨rfl, hb⟩))
    rename_i HZ
    go_wp2_with fail
    go_ret
    exact ⟨rfl, HZ.2.2.2⟩
end Go.Proofs.Ytfgnojmpnkjdmaa
