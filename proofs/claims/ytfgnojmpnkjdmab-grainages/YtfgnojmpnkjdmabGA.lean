/- The walk of GrainAges. -/
import Derived.Test.YtfgnojmpnkjdmabG8
import Derived.Test.YtfgnojmpnkjdmabOR
namespace Go.Proofs.Ytfgnojmpnkjdmab
open Go.RowKit

set_option maxRecDepth 100000 in
set_option maxHeartbeats 1000000 in
theorem ages_no (R : Rl) (t wm : Int) (w : World) (hL : Lies R w.heap.size w) (h : fE R t wm ≠ 0) :
    Calls Try.prog 4 #[.agg #[.slice R.a R.len R.cap, .int .i64 R.kp], .int .i64 t, .int .i64 wm] w fun e w' => e = .returned (.bool true) ∧ Below w.heap.size w w' := by
  have HK : Hid (fE R t wm = 0 → IsStep R t wm 0) := fun h0 => absurd h0 h
  have S0 : Hid (stA R t wm 0 = 0) := by unfold Hid stA; rw [if_neg h]
  have g1 : (fE R t wm == 0) = false := by simpa using h
  have g2 : (fE R t wm != 0) = true := by simpa using h
  clear h
  have HL : Hid (Lies R w.heap.size w) := hL
  have HB0 : Hid (Below w.heap.size w (w.alloc (.cells #[.slice R.a R.len R.cap, .int .i64 R.kp] 24))) := new_below _ _
  have HX0 : Hid (RBox R w.heap.size (w.alloc (.cells #[.slice R.a R.len R.cap, .int .i64 R.kp] 24))) := RBox.new R w _
  have HL0 : Hid (Lies R (w.alloc (.cells #[.slice R.a R.len R.cap, .int .i64 R.kp] 24)).heap.size (w.alloc (.cells #[.slice R.a R.len R.cap, .int .i64 R.kp] 24))) := HL.out.at HB0.out
  clear hL
  go_enter Try.func4, Try.ntmps4
  go_wp2_with fail
  refine (step_any R t wm 0 HK.out _ HL0.out).mono ?_
  rw [S0.out]
  rintro e w1 ⟨rfl, hb1⟩
  have HB1 : Hid (Below w.heap.size w w1) := HB0.out.trans (hb1.mono HB0.out.size)
  have HX1 : Hid (RBox R w.heap.size w1) := HX0.out.below hb1
  have HL1 : Hid (Lies R w1.heap.size w1) := HL.out.at HB1.out
  clear hb1
  (try clear c0 c1)
  obtain ⟨_, c0, c1⟩ := HX1.out
  go_wp2_with fail
  refine (alive_any _).mono ?_
  rintro e w2 ⟨rfl, hb2⟩
  have HB2 : Hid (Below w.heap.size w w2) := HB1.out.trans (hb2.mono HB1.out.size)
  have HX2 : Hid (RBox R w.heap.size w2) := HX1.out.below hb2
  have HL2 : Hid (Lies R w2.heap.size w2) := HL.out.at HB2.out
  clear hb2
  (try clear c0 c1)
  obtain ⟨_, c0, c1⟩ := HX2.out
  go_wp2_with fail
  go_ret
  exact ⟨rfl, HB2.out⟩
set_option maxRecDepth 100000 in
set_option maxHeartbeats 1000000 in
theorem ages_yes (R : Rl) (t wm : Int) (w : World) (hL : Lies R w.heap.size w) (h : fE R t wm = 0) :
    Calls Try.prog 4 #[.agg #[.slice R.a R.len R.cap, .int .i64 R.kp], .int .i64 t, .int .i64 wm] w fun e w' => e = .returned (.bool true) ∧ Below w.heap.size w w' := by
  obtain ⟨hR, ht, hw⟩ := fE_ok h
  obtain ⟨K, hK⟩ := step_exists hR t wm
  have HK : Hid (fE R t wm = 0 → IsStep R t wm K) := fun _ => hK
  have HF : Hid (fE R t wm = 0) := h
  have SA : Hid (stA R t wm K = K) := by unfold Hid stA; rw [if_pos h]
  have EA : Hid (enA R t K = endF t (R.sz K)) := enA_of hR ht hK.1
  have EE : Hid (enE R t K = 0) := enE_of hR ht hK.1
  have HKl : Hid (K < R.len) := hK.1
  have i1 : (K : Int) < (R.len : Int) := by have := hK.1; omega
  have hl4 := hR.2.1
  have hw' := (isT_iff _).1 hw
  have haK := (isT_iff _).1 (ag_ok hR hK.1)
  have hwa : IntKind.i64.wrap (wm - R.ag K) = wm - R.ag K := by rw [IntKind.wrap_i64]; omega
  obtain ⟨b, off, ha⟩ := row_b hR hL
  have HA : Hid (R.a = some ⟨b, off, none⟩) := ha
  have HC : Hid (K = 0 ∨ endF t (R.sz K) ≤ wm - R.ag K) := hK.2.1
  have HN : Hid (∀ j, K < j → j < R.len → ¬ endF t (R.sz j) ≤ wm - R.ag j) := hK.2.2
  have HRT : Hid (RightP R ∧ isT t = true) := ⟨hR, ht⟩
  obtain ⟨l, hl⟩ : ∃ l, l = K + 1 := ⟨_, rfl⟩
  have hwk : IntKind.i64.wrap ((K : Int) + 1) = (l : Int) := by rw [IntKind.wrap_i64]; omega
  clear h hR ht hw hK ha haK
  by_cases hlt : l < R.len
  · have i2 : (l : Int) < (R.len : Int) := by omega
    have haL := (isT_iff _).1 (ag_ok HRT.out.1 hlt)
    have hwb : IntKind.i64.wrap (wm - R.ag l) = wm - R.ag l := by rw [IntKind.wrap_i64]; omega
    have FA : Hid (enA R t l = endF t (R.sz l)) := enA_of HRT.out.1 HRT.out.2 hlt
    have FE : Hid (enE R t l = 0) := enE_of HRT.out.1 HRT.out.2 hlt
    have hn : wm - R.ag l < endF t (R.sz l) := by have := HN.out l (by omega) hlt; omega
    have Hlt : Hid (l < R.len) := hlt
    clear haL HN hlt hl hl4 hw'
    generalize endF t (R.sz l) = el at *
    by_cases h0 : K = 0
    · have hk0 : (K : Int) ≤ 0 := by omega
      clear h0
      generalize endF t (R.sz K) = ek at *
      have HL : Hid (Lies R w.heap.size w) := hL
      have HB0 : Hid (Below w.heap.size w (w.alloc (.cells #[.slice R.a R.len R.cap, .int .i64 R.kp] 24))) := new_below _ _
      have HX0 : Hid (RBox R w.heap.size (w.alloc (.cells #[.slice R.a R.len R.cap, .int .i64 R.kp] 24))) := RBox.new R w _
      have HL0 : Hid (Lies R (w.alloc (.cells #[.slice R.a R.len R.cap, .int .i64 R.kp] 24)).heap.size (w.alloc (.cells #[.slice R.a R.len R.cap, .int .i64 R.kp] 24))) := HL.out.at HB0.out
      clear hL
      go_enter Try.func4, Try.ntmps4
      go_wp2_with fail
      refine (step_any R t wm K HK.out _ HL0.out).mono ?_
      rw [SA.out, HF.out]
      rintro e w1 ⟨rfl, hb1⟩
      have HB1 : Hid (Below w.heap.size w w1) := HB0.out.trans (hb1.mono HB0.out.size)
      have HX1 : Hid (RBox R w.heap.size w1) := HX0.out.below hb1
      have HL1 : Hid (Lies R w1.heap.size w1) := HL.out.at HB1.out
      clear hb1
      (try clear c0 c1)
      obtain ⟨_, c0, c1⟩ := HX1.out
      go_wp2_with fail
      refine (end_call R t K _ HL1.out).mono ?_
      rw [EA.out, EE.out]
      rintro e w2 ⟨rfl, hb2⟩
      have HB2 : Hid (Below w.heap.size w w2) := HB1.out.trans (hb2.mono HB1.out.size)
      have HX2 : Hid (RBox R w.heap.size w2) := HX1.out.below hb2
      have HL2 : Hid (Lies R w2.heap.size w2) := HL.out.at HB2.out
      clear hb2
      (try clear c0 c1)
      obtain ⟨_, c0, c1⟩ := HX2.out
      go_wp2_with fail
      refine (end_call R t l _ HL2.out).mono ?_
      rw [FA.out, FE.out]
      rintro e w3 ⟨rfl, hb3⟩
      have HB3 : Hid (Below w.heap.size w w3) := HB2.out.trans (hb3.mono HB2.out.size)
      have HX3 : Hid (RBox R w.heap.size w3) := HX2.out.below hb3
      have HL3 : Hid (Lies R w3.heap.size w3) := HL.out.at HB3.out
      clear hb3
      (try clear c0 c1)
      obtain ⟨_, c0, c1⟩ := HX3.out
      go_wp2_with fail
      refine (alive_any _).mono ?_
      rintro e w4 ⟨rfl, hb4⟩
      have HB4 : Hid (Below w.heap.size w w4) := HB3.out.trans (hb4.mono HB3.out.size)
      have HX4 : Hid (RBox R w.heap.size w4) := HX3.out.below hb4
      have HL4 : Hid (Lies R w4.heap.size w4) := HL.out.at HB4.out
      clear hb4
      (try clear c0 c1)
      obtain ⟨_, c0, c1⟩ := HX4.out
      (try rw [HA.out] at c0)
      obtain ⟨dzl, dal⟩ := row_at HA.out HL4.out (k := l) Hlt.out
      go_wp2_with fail
      go_ret
      exact ⟨rfl, HB4.out⟩
    · have hc : endF t (R.sz K) ≤ wm - R.ag K := by rcases HC.out with h | h; exact absurd h h0; exact h
      have hk0 : (0 : Int) < (K : Int) := by omega
      clear h0
      generalize endF t (R.sz K) = ek at *
      have HL : Hid (Lies R w.heap.size w) := hL
      have HB0 : Hid (Below w.heap.size w (w.alloc (.cells #[.slice R.a R.len R.cap, .int .i64 R.kp] 24))) := new_below _ _
      have HX0 : Hid (RBox R w.heap.size (w.alloc (.cells #[.slice R.a R.len R.cap, .int .i64 R.kp] 24))) := RBox.new R w _
      have HL0 : Hid (Lies R (w.alloc (.cells #[.slice R.a R.len R.cap, .int .i64 R.kp] 24)).heap.size (w.alloc (.cells #[.slice R.a R.len R.cap, .int .i64 R.kp] 24))) := HL.out.at HB0.out
      clear hL
      go_enter Try.func4, Try.ntmps4
      go_wp2_with fail
      refine (step_any R t wm K HK.out _ HL0.out).mono ?_
      rw [SA.out, HF.out]
      rintro e w1 ⟨rfl, hb1⟩
      have HB1 : Hid (Below w.heap.size w w1) := HB0.out.trans (hb1.mono HB0.out.size)
      have HX1 : Hid (RBox R w.heap.size w1) := HX0.out.below hb1
      have HL1 : Hid (Lies R w1.heap.size w1) := HL.out.at HB1.out
      clear hb1
      (try clear c0 c1)
      obtain ⟨_, c0, c1⟩ := HX1.out
      go_wp2_with fail
      refine (end_call R t K _ HL1.out).mono ?_
      rw [EA.out, EE.out]
      rintro e w2 ⟨rfl, hb2⟩
      have HB2 : Hid (Below w.heap.size w w2) := HB1.out.trans (hb2.mono HB1.out.size)
      have HX2 : Hid (RBox R w.heap.size w2) := HX1.out.below hb2
      have HL2 : Hid (Lies R w2.heap.size w2) := HL.out.at HB2.out
      clear hb2
      (try clear c0 c1)
      obtain ⟨_, c0, c1⟩ := HX2.out
      (try rw [HA.out] at c0)
      obtain ⟨dzK, daK⟩ := row_at HA.out HL2.out (k := K) HKl.out
      go_wp2_with fail
      clear dzK daK
      rw [← HA.out]
      refine (end_call R t l _ HL2.out).mono ?_
      rw [FA.out, FE.out]
      rintro e w3 ⟨rfl, hb3⟩
      have HB3 : Hid (Below w.heap.size w w3) := HB2.out.trans (hb3.mono HB2.out.size)
      have HX3 : Hid (RBox R w.heap.size w3) := HX2.out.below hb3
      have HL3 : Hid (Lies R w3.heap.size w3) := HL.out.at HB3.out
      clear hb3
      (try clear c0 c1)
      obtain ⟨_, c0, c1⟩ := HX3.out
      go_wp2_with fail
      refine (alive_any _).mono ?_
      rintro e w4 ⟨rfl, hb4⟩
      have HB4 : Hid (Below w.heap.size w w4) := HB3.out.trans (hb4.mono HB3.out.size)
      have HX4 : Hid (RBox R w.heap.size w4) := HX3.out.below hb4
      have HL4 : Hid (Lies R w4.heap.size w4) := HL.out.at HB4.out
      clear hb4
      (try clear c0 c1)
      obtain ⟨_, c0, c1⟩ := HX4.out
      (try rw [HA.out] at c0)
      obtain ⟨dzl, dal⟩ := row_at HA.out HL4.out (k := l) Hlt.out
      go_wp2_with fail
      go_ret
      exact ⟨rfl, HB4.out⟩
  · have i2 : (R.len : Int) ≤ (l : Int) := by omega
    clear HN hlt hl hl4 hw'
    by_cases h0 : K = 0
    · have hk0 : (K : Int) ≤ 0 := by omega
      clear h0
      generalize endF t (R.sz K) = ek at *
      have HL : Hid (Lies R w.heap.size w) := hL
      have HB0 : Hid (Below w.heap.size w (w.alloc (.cells #[.slice R.a R.len R.cap, .int .i64 R.kp] 24))) := new_below _ _
      have HX0 : Hid (RBox R w.heap.size (w.alloc (.cells #[.slice R.a R.len R.cap, .int .i64 R.kp] 24))) := RBox.new R w _
      have HL0 : Hid (Lies R (w.alloc (.cells #[.slice R.a R.len R.cap, .int .i64 R.kp] 24)).heap.size (w.alloc (.cells #[.slice R.a R.len R.cap, .int .i64 R.kp] 24))) := HL.out.at HB0.out
      clear hL
      go_enter Try.func4, Try.ntmps4
      go_wp2_with fail
      refine (step_any R t wm K HK.out _ HL0.out).mono ?_
      rw [SA.out, HF.out]
      rintro e w1 ⟨rfl, hb1⟩
      have HB1 : Hid (Below w.heap.size w w1) := HB0.out.trans (hb1.mono HB0.out.size)
      have HX1 : Hid (RBox R w.heap.size w1) := HX0.out.below hb1
      have HL1 : Hid (Lies R w1.heap.size w1) := HL.out.at HB1.out
      clear hb1
      (try clear c0 c1)
      obtain ⟨_, c0, c1⟩ := HX1.out
      go_wp2_with fail
      refine (end_call R t K _ HL1.out).mono ?_
      rw [EA.out, EE.out]
      rintro e w2 ⟨rfl, hb2⟩
      have HB2 : Hid (Below w.heap.size w w2) := HB1.out.trans (hb2.mono HB1.out.size)
      have HX2 : Hid (RBox R w.heap.size w2) := HX1.out.below hb2
      have HL2 : Hid (Lies R w2.heap.size w2) := HL.out.at HB2.out
      clear hb2
      (try clear c0 c1)
      obtain ⟨_, c0, c1⟩ := HX2.out
      go_wp2_with fail
      refine (alive_any _).mono ?_
      rintro e w3 ⟨rfl, hb3⟩
      have HB3 : Hid (Below w.heap.size w w3) := HB2.out.trans (hb3.mono HB2.out.size)
      have HX3 : Hid (RBox R w.heap.size w3) := HX2.out.below hb3
      have HL3 : Hid (Lies R w3.heap.size w3) := HL.out.at HB3.out
      clear hb3
      (try clear c0 c1)
      obtain ⟨_, c0, c1⟩ := HX3.out
      go_wp2_with fail
      go_ret
      exact ⟨rfl, HB3.out⟩
    · have hc : endF t (R.sz K) ≤ wm - R.ag K := by rcases HC.out with h | h; exact absurd h h0; exact h
      have hk0 : (0 : Int) < (K : Int) := by omega
      clear h0
      generalize endF t (R.sz K) = ek at *
      have HL : Hid (Lies R w.heap.size w) := hL
      have HB0 : Hid (Below w.heap.size w (w.alloc (.cells #[.slice R.a R.len R.cap, .int .i64 R.kp] 24))) := new_below _ _
      have HX0 : Hid (RBox R w.heap.size (w.alloc (.cells #[.slice R.a R.len R.cap, .int .i64 R.kp] 24))) := RBox.new R w _
      have HL0 : Hid (Lies R (w.alloc (.cells #[.slice R.a R.len R.cap, .int .i64 R.kp] 24)).heap.size (w.alloc (.cells #[.slice R.a R.len R.cap, .int .i64 R.kp] 24))) := HL.out.at HB0.out
      clear hL
      go_enter Try.func4, Try.ntmps4
      go_wp2_with fail
      refine (step_any R t wm K HK.out _ HL0.out).mono ?_
      rw [SA.out, HF.out]
      rintro e w1 ⟨rfl, hb1⟩
      have HB1 : Hid (Below w.heap.size w w1) := HB0.out.trans (hb1.mono HB0.out.size)
      have HX1 : Hid (RBox R w.heap.size w1) := HX0.out.below hb1
      have HL1 : Hid (Lies R w1.heap.size w1) := HL.out.at HB1.out
      clear hb1
      (try clear c0 c1)
      obtain ⟨_, c0, c1⟩ := HX1.out
      go_wp2_with fail
      refine (end_call R t K _ HL1.out).mono ?_
      rw [EA.out, EE.out]
      rintro e w2 ⟨rfl, hb2⟩
      have HB2 : Hid (Below w.heap.size w w2) := HB1.out.trans (hb2.mono HB1.out.size)
      have HX2 : Hid (RBox R w.heap.size w2) := HX1.out.below hb2
      have HL2 : Hid (Lies R w2.heap.size w2) := HL.out.at HB2.out
      clear hb2
      (try clear c0 c1)
      obtain ⟨_, c0, c1⟩ := HX2.out
      (try rw [HA.out] at c0)
      obtain ⟨dzK, daK⟩ := row_at HA.out HL2.out (k := K) HKl.out
      go_wp2_with fail
      refine (alive_any _).mono ?_
      rintro e w3 ⟨rfl, hb3⟩
      have HB3 : Hid (Below w.heap.size w w3) := HB2.out.trans (hb3.mono HB2.out.size)
      have HX3 : Hid (RBox R w.heap.size w3) := HX2.out.below hb3
      have HL3 : Hid (Lies R w3.heap.size w3) := HL.out.at HB3.out
      clear hb3
      (try clear c0 c1)
      obtain ⟨_, c0, c1⟩ := HX3.out
      go_wp2_with fail
      go_ret
      exact ⟨rfl, HB3.out⟩
theorem agesWalk (R : Rl) (t wm : Int) (w : World) (hL : Lies R w.heap.size w) :
    Calls Try.prog 4 #[.agg #[.slice R.a R.len R.cap, .int .i64 R.kp], .int .i64 t, .int .i64 wm] w fun e w' => e = .returned (.bool true) ∧ Below w.heap.size w w' := by
  by_cases h : fE R t wm = 0
  · exact ages_yes R t wm w hL h
  · exact ages_no R t wm w hL h
end Go.Proofs.Ytfgnojmpnkjdmab
