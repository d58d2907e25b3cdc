/- The walk of GrainNever. -/
import Derived.Test.YtfgnojmpnkjdmaaG7
import Derived.Test.YtfgnojmpnkjdmaaOR
namespace Go.Proofs.Ytfgnojmpnkjdmaa
open Go.RowKit

theorem never_step {R : Rl} {t w v : Int} {K L : Nat} (hK : IsStep R t w K) (hL : IsStep R t v L) (h : w ≤ v) : K ≤ L := by
  rcases Nat.lt_or_ge L K with hlt | hge
  · exfalso
    rcases hK.2.1 with h0 | h0
    · omega
    · refine hL.2.2 K hlt hK.1 ?_
      unfold cnd at *; omega
  · exact hge
theorem never_last {R : Rl} (hR : RightP R) {t w : Int} {K : Nat} (hK : IsStep R t w K) (h : endF t (R.sz (R.len - 1)) ≤ w - R.kp) : K = R.len - 1 := by
  rcases Nat.lt_or_ge K (R.len - 1) with hlt | hge
  · exfalso
    refine hK.2.2 (R.len - 1) hlt (by omega) ?_
    have := hR.2.2.2.2.1
    unfold cnd; omega
  · have := hK.1; omega
theorem fE_bad {R : Rl} {t w : Int} (K : Nat) (h : fE R t w ≠ 0) : fE R t w = 0 → IsStep R t w K := fun h0 => absurd h0 h

set_option maxRecDepth 100000 in
set_option maxHeartbeats 1000000 in
theorem never_no (R : Rl) (t wm lt : Int) (w : World) (hL : Lies R w.heap.size w) (h : fE R t wm ≠ 0 ∨ fE R t lt ≠ 0 ∨ lt < wm) :
    Calls Try.prog 8 #[.agg #[.slice R.a R.len R.cap, .int .i64 R.kp], .int .i64 t, .int .i64 wm, .int .i64 lt] w fun e w' => e = .returned (.bool true) ∧ Below w.heap.size w w' := by
  obtain ⟨K, HK⟩ : ∃ K, Hid (fE R t wm = 0 → IsStep R t wm K) := by
    by_cases h0 : fE R t wm = 0
    · obtain ⟨K, hK⟩ := step_exists (fE_ok h0).1 t wm; exact ⟨K, fun _ => hK⟩
    · exact ⟨0, fE_bad 0 h0⟩
  obtain ⟨L, HM⟩ : ∃ L, Hid (fE R t lt = 0 → IsStep R t lt L) := by
    by_cases h0 : fE R t lt = 0
    · obtain ⟨K, hK⟩ := step_exists (fE_ok h0).1 t lt; exact ⟨K, fun _ => hK⟩
    · exact ⟨0, fE_bad 0 h0⟩
  by_cases h1 : fE R t wm = 0
  · by_cases h2 : fE R t lt = 0
    · have g : decide (lt < wm) = true := by simp; rcases h with h | h | h; exact absurd h1 h; exact absurd h2 h; exact h
      have H1 : Hid (fE R t wm = 0) := h1
      have H2 : Hid (fE R t lt = 0) := h2
      clear h h1 h2
      have HL : Hid (Lies R w.heap.size w) := hL
      have HB0 : Hid (Below w.heap.size w (w.alloc (.cells #[.slice R.a R.len R.cap, .int .i64 R.kp] 24))) := new_below _ _
      have HX0 : Hid (RBox R w.heap.size (w.alloc (.cells #[.slice R.a R.len R.cap, .int .i64 R.kp] 24))) := RBox.new R w _
      have HL0 : Hid (Lies R (w.alloc (.cells #[.slice R.a R.len R.cap, .int .i64 R.kp] 24)).heap.size (w.alloc (.cells #[.slice R.a R.len R.cap, .int .i64 R.kp] 24))) := HL.out.at HB0.out
      clear hL
      go_enter Try.func8, Try.ntmps8
      go_wp2_with fail
      refine (step_any R t wm K HK.out _ HL0.out).mono ?_
      rw [H1.out]
      rintro e w1 ⟨rfl, hb1⟩
      have HB1 : Hid (Below w.heap.size w w1) := HB0.out.trans (hb1.mono HB0.out.size)
      have HX1 : Hid (RBox R w.heap.size w1) := HX0.out.below hb1
      have HL1 : Hid (Lies R w1.heap.size w1) := HL.out.at HB1.out
      clear hb1
      (try clear c0 c1)
      obtain ⟨_, c0, c1⟩ := HX1.out
      go_wp2_with fail
      refine (step_any R t lt L HM.out _ HL1.out).mono ?_
      rw [H2.out]
      rintro e w2 ⟨rfl, hb2⟩
      have HB2 : Hid (Below w.heap.size w w2) := HB1.out.trans (hb2.mono HB1.out.size)
      have HX2 : Hid (RBox R w.heap.size w2) := HX1.out.below hb2
      have HL2 : Hid (Lies R w2.heap.size w2) := HL.out.at HB2.out
      clear hb2
      (try clear c0 c1)
      obtain ⟨_, c0, c1⟩ := HX2.out
      go_wp2_with fail
      refine (alive_any _).mono ?_
      rintro e w3 ⟨rfl, hb3⟩
      have HB3 : Hid (Below w.heap.size w w3) := HB2.out.trans (hb3.mono HB2.out.size)
      have HX3 : Hid (RBox R w.heap.size w3) := HX2.out.below hb3
      have HL3 : Hid (Lies R w3.heap.size w3) := HL.out.at HB3.out
      clear hb3
      (try clear c0 c1)
      obtain ⟨_, c0, c1⟩ := HX3.out
      go_wp2_with fail
      go_ret
      exact ⟨rfl, HB3.out⟩
    · have g1 : (fE R t lt == 0) = false := by simpa using h2
      have g2 : (fE R t lt != 0) = true := by simpa using h2
      have H1 : Hid (fE R t wm = 0) := h1
      clear h h1 h2
      have HL : Hid (Lies R w.heap.size w) := hL
      have HB0 : Hid (Below w.heap.size w (w.alloc (.cells #[.slice R.a R.len R.cap, .int .i64 R.kp] 24))) := new_below _ _
      have HX0 : Hid (RBox R w.heap.size (w.alloc (.cells #[.slice R.a R.len R.cap, .int .i64 R.kp] 24))) := RBox.new R w _
      have HL0 : Hid (Lies R (w.alloc (.cells #[.slice R.a R.len R.cap, .int .i64 R.kp] 24)).heap.size (w.alloc (.cells #[.slice R.a R.len R.cap, .int .i64 R.kp] 24))) := HL.out.at HB0.out
      clear hL
      go_enter Try.func8, Try.ntmps8
      go_wp2_with fail
      refine (step_any R t wm K HK.out _ HL0.out).mono ?_
      rw [H1.out]
      rintro e w1 ⟨rfl, hb1⟩
      have HB1 : Hid (Below w.heap.size w w1) := HB0.out.trans (hb1.mono HB0.out.size)
      have HX1 : Hid (RBox R w.heap.size w1) := HX0.out.below hb1
      have HL1 : Hid (Lies R w1.heap.size w1) := HL.out.at HB1.out
      clear hb1
      (try clear c0 c1)
      obtain ⟨_, c0, c1⟩ := HX1.out
      go_wp2_with fail
      refine (step_any R t lt L HM.out _ HL1.out).mono ?_
      rintro e w2 ⟨rfl, hb2⟩
      have HB2 : Hid (Below w.heap.size w w2) := HB1.out.trans (hb2.mono HB1.out.size)
      have HX2 : Hid (RBox R w.heap.size w2) := HX1.out.below hb2
      have HL2 : Hid (Lies R w2.heap.size w2) := HL.out.at HB2.out
      clear hb2
      (try clear c0 c1)
      obtain ⟨_, c0, c1⟩ := HX2.out
      go_wp2_with fail
      refine (alive_any _).mono ?_
      rintro e w3 ⟨rfl, hb3⟩
      have HB3 : Hid (Below w.heap.size w w3) := HB2.out.trans (hb3.mono HB2.out.size)
      have HX3 : Hid (RBox R w.heap.size w3) := HX2.out.below hb3
      have HL3 : Hid (Lies R w3.heap.size w3) := HL.out.at HB3.out
      clear hb3
      (try clear c0 c1)
      obtain ⟨_, c0, c1⟩ := HX3.out
      go_wp2_with fail
      go_ret
      exact ⟨rfl, HB3.out⟩
  · have g1 : (fE R t wm == 0) = false := by simpa using h1
    have g2 : (fE R t wm != 0) = true := by simpa using h1
    clear h h1
    have HL : Hid (Lies R w.heap.size w) := hL
    have HB0 : Hid (Below w.heap.size w (w.alloc (.cells #[.slice R.a R.len R.cap, .int .i64 R.kp] 24))) := new_below _ _
    have HX0 : Hid (RBox R w.heap.size (w.alloc (.cells #[.slice R.a R.len R.cap, .int .i64 R.kp] 24))) := RBox.new R w _
    have HL0 : Hid (Lies R (w.alloc (.cells #[.slice R.a R.len R.cap, .int .i64 R.kp] 24)).heap.size (w.alloc (.cells #[.slice R.a R.len R.cap, .int .i64 R.kp] 24))) := HL.out.at HB0.out
    clear hL
    go_enter Try.func8, Try.ntmps8
    go_wp2_with fail
    refine (step_any R t wm K HK.out _ HL0.out).mono ?_
    rintro e w1 ⟨rfl, hb1⟩
    have HB1 : Hid (Below w.heap.size w w1) := HB0.out.trans (hb1.mono HB0.out.size)
    have HX1 : Hid (RBox R w.heap.size w1) := HX0.out.below hb1
    have HL1 : Hid (Lies R w1.heap.size w1) := HL.out.at HB1.out
    clear hb1
    (try clear c0 c1)
    obtain ⟨_, c0, c1⟩ := HX1.out
    go_wp2_with fail
    refine (step_any R t lt L HM.out _ HL1.out).mono ?_
    rintro e w2 ⟨rfl, hb2⟩
    have HB2 : Hid (Below w.heap.size w w2) := HB1.out.trans (hb2.mono HB1.out.size)
    have HX2 : Hid (RBox R w.heap.size w2) := HX1.out.below hb2
    have HL2 : Hid (Lies R w2.heap.size w2) := HL.out.at HB2.out
    clear hb2
    (try clear c0 c1)
    obtain ⟨_, c0, c1⟩ := HX2.out
    go_wp2_with fail
    refine (alive_any _).mono ?_
    rintro e w3 ⟨rfl, hb3⟩
    have HB3 : Hid (Below w.heap.size w w3) := HB2.out.trans (hb3.mono HB2.out.size)
    have HX3 : Hid (RBox R w.heap.size w3) := HX2.out.below hb3
    have HL3 : Hid (Lies R w3.heap.size w3) := HL.out.at HB3.out
    clear hb3
    (try clear c0 c1)
    obtain ⟨_, c0, c1⟩ := HX3.out
    go_wp2_with fail
    go_ret
    exact ⟨rfl, HB3.out⟩

set_option maxRecDepth 100000 in
set_option maxHeartbeats 1000000 in
theorem never_yes (R : Rl) (t wm lt : Int) (w : World) (hL : Lies R w.heap.size w) (h1 : fE R t wm = 0) (h2 : fE R t lt = 0) (h3 : wm ≤ lt) :
    Calls Try.prog 8 #[.agg #[.slice R.a R.len R.cap, .int .i64 R.kp], .int .i64 t, .int .i64 wm, .int .i64 lt] w fun e w' => e = .returned (.bool true) ∧ Below w.heap.size w w' := by
  have hR := (fE_ok h1).1
  obtain ⟨K, hK⟩ := step_exists hR t wm
  obtain ⟨L, hM⟩ := step_exists hR t lt
  have HK : Hid (fE R t wm = 0 → IsStep R t wm K) := fun _ => hK
  have HM : Hid (fE R t lt = 0 → IsStep R t lt L) := fun _ => hM
  have H1 : Hid (fE R t wm = 0) := h1
  have H2 : Hid (fE R t lt = 0) := h2
  have SK : Hid (stA R t wm K = K) := by unfold Hid stA; rw [if_pos h1]
  have SL : Hid (stA R t lt L = L) := by unfold Hid stA; rw [if_pos h2]
  have g0 : decide (lt < wm) = false := by simp; omega
  have g1 : (K : Int) ≤ (L : Int) := by have := never_step hK hM h3; omega
  have hle := hR.2.1
  have hl1 := hR.1
  have hwl : IntKind.i64.wrap ((R.len : Int) - 1) = (R.len : Int) - 1 := by rw [IntKind.wrap_i64]; omega
  cases hx : exA R t wm
  · have HXA : Hid (exA R t wm = false) := hx
    clear hx hK hM hR h1 h2 h3 hle hl1
    have HL : Hid (Lies R w.heap.size w) := hL
    have HB0 : Hid (Below w.heap.size w (w.alloc (.cells #[.slice R.a R.len R.cap, .int .i64 R.kp] 24))) := new_below _ _
    have HX0 : Hid (RBox R w.heap.size (w.alloc (.cells #[.slice R.a R.len R.cap, .int .i64 R.kp] 24))) := RBox.new R w _
    have HL0 : Hid (Lies R (w.alloc (.cells #[.slice R.a R.len R.cap, .int .i64 R.kp] 24)).heap.size (w.alloc (.cells #[.slice R.a R.len R.cap, .int .i64 R.kp] 24))) := HL.out.at HB0.out
    clear hL
    go_enter Try.func8, Try.ntmps8
    go_wp2_with fail
    refine (step_any R t wm K HK.out _ HL0.out).mono ?_
    rw [H1.out, SK.out]
    rintro e w1 ⟨rfl, hb1⟩
    have HB1 : Hid (Below w.heap.size w w1) := HB0.out.trans (hb1.mono HB0.out.size)
    have HX1 : Hid (RBox R w.heap.size w1) := HX0.out.below hb1
    have HL1 : Hid (Lies R w1.heap.size w1) := HL.out.at HB1.out
    clear hb1
    (try clear c0 c1)
    obtain ⟨_, c0, c1⟩ := HX1.out
    go_wp2_with fail
    refine (step_any R t lt L HM.out _ HL1.out).mono ?_
    rw [H2.out, SL.out]
    rintro e w2 ⟨rfl, hb2⟩
    have HB2 : Hid (Below w.heap.size w w2) := HB1.out.trans (hb2.mono HB1.out.size)
    have HX2 : Hid (RBox R w.heap.size w2) := HX1.out.below hb2
    have HL2 : Hid (Lies R w2.heap.size w2) := HL.out.at HB2.out
    clear hb2
    (try clear c0 c1)
    obtain ⟨_, c0, c1⟩ := HX2.out
    go_wp2_with fail
    refine (expired_any R t wm _ HL2.out).mono ?_
    rw [H1.out, HXA.out]
    rintro e w3 ⟨rfl, hb3⟩
    have HB3 : Hid (Below w.heap.size w w3) := HB2.out.trans (hb3.mono HB2.out.size)
    have HX3 : Hid (RBox R w.heap.size w3) := HX2.out.below hb3
    have HL3 : Hid (Lies R w3.heap.size w3) := HL.out.at HB3.out
    clear hb3
    (try clear c0 c1)
    obtain ⟨_, c0, c1⟩ := HX3.out
    go_wp2_with fail
    refine (expired_any R t lt _ HL3.out).mono ?_
    rw [H2.out]
    rintro e w4 ⟨rfl, hb4⟩
    have HB4 : Hid (Below w.heap.size w w4) := HB3.out.trans (hb4.mono HB3.out.size)
    have HX4 : Hid (RBox R w.heap.size w4) := HX3.out.below hb4
    have HL4 : Hid (Lies R w4.heap.size w4) := HL.out.at HB4.out
    clear hb4
    (try clear c0 c1)
    obtain ⟨_, c0, c1⟩ := HX4.out
    go_wp2_with fail
    refine (alive_any _).mono ?_
    rintro e w5 ⟨rfl, hb5⟩
    have HB5 : Hid (Below w.heap.size w w5) := HB4.out.trans (hb5.mono HB4.out.size)
    have HX5 : Hid (RBox R w.heap.size w5) := HX4.out.below hb5
    have HL5 : Hid (Lies R w5.heap.size w5) := HL.out.at HB5.out
    clear hb5
    (try clear c0 c1)
    obtain ⟨_, c0, c1⟩ := HX5.out
    go_wp2_with fail
    go_ret
    exact ⟨rfl, HB5.out⟩
  · have hx1 : endF t (R.sz (R.len - 1)) ≤ wm - R.kp := by unfold exA at hx; rw [if_pos h1] at hx; simpa using hx
    have HY : Hid (exA R t lt = true) := by unfold Hid exA; rw [if_pos h2]; simp; omega
    have hKl := never_last hR hK hx1
    have g2 : ((K : Int) == (R.len : Int) - 1) = true := by simp; omega
    have HXA : Hid (exA R t wm = true) := hx
    clear hx hK hM hR h1 h2 h3 hx1 hKl hle hl1
    have HL : Hid (Lies R w.heap.size w) := hL
    have HB0 : Hid (Below w.heap.size w (w.alloc (.cells #[.slice R.a R.len R.cap, .int .i64 R.kp] 24))) := new_below _ _
    have HX0 : Hid (RBox R w.heap.size (w.alloc (.cells #[.slice R.a R.len R.cap, .int .i64 R.kp] 24))) := RBox.new R w _
    have HL0 : Hid (Lies R (w.alloc (.cells #[.slice R.a R.len R.cap, .int .i64 R.kp] 24)).heap.size (w.alloc (.cells #[.slice R.a R.len R.cap, .int .i64 R.kp] 24))) := HL.out.at HB0.out
    clear hL
    go_enter Try.func8, Try.ntmps8
    go_wp2_with fail
    refine (step_any R t wm K HK.out _ HL0.out).mono ?_
    rw [H1.out, SK.out]
    rintro e w1 ⟨rfl, hb1⟩
    have HB1 : Hid (Below w.heap.size w w1) := HB0.out.trans (hb1.mono HB0.out.size)
    have HX1 : Hid (RBox R w.heap.size w1) := HX0.out.below hb1
    have HL1 : Hid (Lies R w1.heap.size w1) := HL.out.at HB1.out
    clear hb1
    (try clear c0 c1)
    obtain ⟨_, c0, c1⟩ := HX1.out
    go_wp2_with fail
    refine (step_any R t lt L HM.out _ HL1.out).mono ?_
    rw [H2.out, SL.out]
    rintro e w2 ⟨rfl, hb2⟩
    have HB2 : Hid (Below w.heap.size w w2) := HB1.out.trans (hb2.mono HB1.out.size)
    have HX2 : Hid (RBox R w.heap.size w2) := HX1.out.below hb2
    have HL2 : Hid (Lies R w2.heap.size w2) := HL.out.at HB2.out
    clear hb2
    (try clear c0 c1)
    obtain ⟨_, c0, c1⟩ := HX2.out
    go_wp2_with fail
    refine (expired_any R t wm _ HL2.out).mono ?_
    rw [H1.out, HXA.out]
    rintro e w3 ⟨rfl, hb3⟩
    have HB3 : Hid (Below w.heap.size w w3) := HB2.out.trans (hb3.mono HB2.out.size)
    have HX3 : Hid (RBox R w.heap.size w3) := HX2.out.below hb3
    have HL3 : Hid (Lies R w3.heap.size w3) := HL.out.at HB3.out
    clear hb3
    (try clear c0 c1)
    obtain ⟨_, c0, c1⟩ := HX3.out
    go_wp2_with fail
    refine (expired_any R t lt _ HL3.out).mono ?_
    rw [H2.out, HY.out]
    rintro e w4 ⟨rfl, hb4⟩
    have HB4 : Hid (Below w.heap.size w w4) := HB3.out.trans (hb4.mono HB3.out.size)
    have HX4 : Hid (RBox R w.heap.size w4) := HX3.out.below hb4
    have HL4 : Hid (Lies R w4.heap.size w4) := HL.out.at HB4.out
    clear hb4
    (try clear c0 c1)
    obtain ⟨_, c0, c1⟩ := HX4.out
    go_wp2_with fail
    refine (alive_any _).mono ?_
    rintro e w5 ⟨rfl, hb5⟩
    have HB5 : Hid (Below w.heap.size w w5) := HB4.out.trans (hb5.mono HB4.out.size)
    have HX5 : Hid (RBox R w.heap.size w5) := HX4.out.below hb5
    have HL5 : Hid (Lies R w5.heap.size w5) := HL.out.at HB5.out
    clear hb5
    (try clear c0 c1)
    obtain ⟨_, c0, c1⟩ := HX5.out
    go_wp2_with fail
    go_ret
    exact ⟨rfl, HB5.out⟩
theorem neverWalk (R : Rl) (t wm lt : Int) (w : World) (hL : Lies R w.heap.size w) :
    Calls Try.prog 8 #[.agg #[.slice R.a R.len R.cap, .int .i64 R.kp], .int .i64 t, .int .i64 wm, .int .i64 lt] w fun e w' => e = .returned (.bool true) ∧ Below w.heap.size w w' := by
  by_cases h : fE R t wm ≠ 0 ∨ fE R t lt ≠ 0 ∨ lt < wm
  · exact never_no R t wm lt w hL h
  · have h1 : fE R t wm = 0 := Classical.byContradiction fun hh => h (.inl hh)
    have h2 : fE R t lt = 0 := Classical.byContradiction fun hh => h (.inr (.inl hh))
    have h3 : ¬ lt < wm := fun hh => h (.inr (.inr hh))
    exact never_yes R t wm lt w hL h1 h2 (by omega)
end Go.Proofs.Ytfgnojmpnkjdmaa
