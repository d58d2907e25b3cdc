/- The walk of GrainWhole. -/
import Derived.Test.YtfgnojmpnkjdmaaG8
import Derived.Test.YtfgnojmpnkjdmaaOR
namespace Go.Proofs.Ytfgnojmpnkjdmaa
open Go.RowKit

set_option maxRecDepth 100000 in
set_option maxHeartbeats 1000000 in
theorem whole_no (R : Rl) (t wm y : Int) (w : World) (hL : Lies R w.heap.size w) (h : fE R t wm ≠ 0) :
    Calls Try.prog 7 #[.agg #[.slice R.a R.len R.cap, .int .i64 R.kp], .int .i64 t, .int .i64 wm, .int .i64 y] w fun e w' => e = .returned (.bool true) ∧ Below w.heap.size w w' := by
  have HK : Hid (fE R t wm = 0 → IsStep R t wm 0) := fun h0 => absurd h0 h
  have g1 : (fE R t wm == 0) = false := by simpa using h
  have g2 : (fE R t wm != 0) = true := by simpa using h
  clear h
  have HL : Hid (Lies R w.heap.size w) := hL
  have HB0 : Hid (Below w.heap.size w (w.alloc (.cells #[.slice R.a R.len R.cap, .int .i64 R.kp] 24))) := new_below _ _
  have HX0 : Hid (RBox R w.heap.size (w.alloc (.cells #[.slice R.a R.len R.cap, .int .i64 R.kp] 24))) := RBox.new R w _
  have HL0 : Hid (Lies R (w.alloc (.cells #[.slice R.a R.len R.cap, .int .i64 R.kp] 24)).heap.size (w.alloc (.cells #[.slice R.a R.len R.cap, .int .i64 R.kp] 24))) := HL.out.at HB0.out
  clear hL
  go_enter Try.func7, Try.ntmps7
  go_wp2_with fail
  refine (bucket_any R t wm 0 HK.out _ HL0.out).mono ?_
  rintro e w1 ⟨rfl, hb1⟩
  have HB1 : Hid (Below w.heap.size w w1) := HB0.out.trans (hb1.mono HB0.out.size)
  have HX1 : Hid (RBox R w.heap.size w1) := HX0.out.below hb1
  have HL1 : Hid (Lies R w1.heap.size w1) := HL.out.at HB1.out
  clear hb1
  (try clear c0 c1)
  obtain ⟨_, c0, c1⟩ := HX1.out
  go_wp2_with fail
  refine (alive_any _).mono ?_
  rintro e w2 ⟨rfl, hb2⟩
  have HB2 : Hid (Below w.heap.size w w2) := HB1.out.trans (hb2.mono HB1.out.size)
  have HX2 : Hid (RBox R w.heap.size w2) := HX1.out.below hb2
  have HL2 : Hid (Lies R w2.heap.size w2) := HL.out.at HB2.out
  clear hb2
  (try clear c0 c1)
  obtain ⟨_, c0, c1⟩ := HX2.out
  go_wp2_with fail
  go_ret
  exact ⟨rfl, HB2.out⟩
set_option maxRecDepth 100000 in
set_option maxHeartbeats 1000000 in
theorem whole_yes (R : Rl) (t wm y : Int) (w : World) (hL : Lies R w.heap.size w) (h : fE R t wm = 0) :
    Calls Try.prog 7 #[.agg #[.slice R.a R.len R.cap, .int .i64 R.kp], .int .i64 t, .int .i64 wm, .int .i64 y] w fun e w' => e = .returned (.bool true) ∧ Below w.heap.size w w' := by
  obtain ⟨hR, ht, hw⟩ := fE_ok h
  obtain ⟨K, hK⟩ := step_exists hR t wm
  have HK : Hid (fE R t wm = 0 → IsStep R t wm K) := fun _ => hK
  have HF : Hid (fE R t wm = 0) := h
  have hs := (isS_iff _).1 (sz_ok hR hK.1)
  have ht' := (isT_iff t).1 ht
  have hm := mod_bd t (R.sz K) ht'.1 hs.1
  have BA : Hid (buA R t wm K = t - t % R.sz K) := by unfold Hid buA; rw [if_pos h]
  have SA : Hid (stA R t wm K = K) := by unfold Hid stA; rw [if_pos h]
  have EA : Hid (enA R t K = endF t (R.sz K)) := enA_of hR ht hK.1
  have EE : Hid (enE R t K = 0) := enE_of hR ht hK.1
  obtain ⟨fr, hfr⟩ : ∃ fr, fr = t - t % R.sz K := ⟨_, rfl⟩
  obtain ⟨en, hen⟩ : ∃ en, en = endF t (R.sz K) := ⟨_, rfl⟩
  have hef : en - fr = R.sz K := by rw [hen, hfr]; unfold endF; omega
  have q1 : 0 ≤ fr := by omega
  have q2 : fr ≤ t := by omega
  have q3 : t < en := by rw [hen]; unfold endF; omega
  have q4 : en ≤ 2199023255552 := by omega
  have HU : Hid (0 ≤ y → y < R.sz K → fr + y ≤ 1099511627776 → fE R (fr + y) wm = 0 ∧ IsStep R (fr + y) wm K ∧ buA R (fr + y) wm K = fr ∧ stA R (fr + y) wm K = K ∧ exA R (fr + y) wm = exA R t wm) := by
    intro y1 y2 y3
    have hu : isT (fr + y) = true := (isT_iff _).2 ⟨by omega, y3⟩
    have hfu := fE_of hR hu hw
    have hq : t / R.sz K = (fr + y) / R.sz K := by rw [hfr, in_bucket hs.1 y1 y2]
    refine ⟨hfu, step_same hR hK hq, ?_, ?_, ?_⟩
    · unfold buA; rw [if_pos hfu, ← fl_same hq]; exact hfr.symm
    · unfold stA; rw [if_pos hfu]
    · unfold exA; rw [if_pos hfu, if_pos h, end_same hR hq (j := R.len - 1) (by have := hK.1; omega) (by have := hK.1; omega)]
  rw [← hfr] at BA
  rw [← hen] at EA
  have hwe : IntKind.i64.wrap (en - fr) = en - fr := by rw [IntKind.wrap_i64]; omega
  have HZ : Hid (R.sz K = en - fr) := hef.symm
  have hbz : en - fr ≤ 1099511627776 := by omega
  clear h hR ht hw hK hs hm hfr hen ht' hef
  by_cases hy : y < 0 ∨ en - fr ≤ y ∨ 1099511627776 - y < fr
  · clear HU HZ
    by_cases y1 : y < 0
    · clear hy
      have HL : Hid (Lies R w.heap.size w) := hL
      have HB0 : Hid (Below w.heap.size w (w.alloc (.cells #[.slice R.a R.len R.cap, .int .i64 R.kp] 24))) := new_below _ _
      have HX0 : Hid (RBox R w.heap.size (w.alloc (.cells #[.slice R.a R.len R.cap, .int .i64 R.kp] 24))) := RBox.new R w _
      have HL0 : Hid (Lies R (w.alloc (.cells #[.slice R.a R.len R.cap, .int .i64 R.kp] 24)).heap.size (w.alloc (.cells #[.slice R.a R.len R.cap, .int .i64 R.kp] 24))) := HL.out.at HB0.out
      clear hL
      go_enter Try.func7, Try.ntmps7
      go_wp2_with fail
      refine (bucket_any R t wm K HK.out _ HL0.out).mono ?_
      rw [BA.out, SA.out, HF.out]
      rintro e w1 ⟨rfl, hb1⟩
      have HB1 : Hid (Below w.heap.size w w1) := HB0.out.trans (hb1.mono HB0.out.size)
      have HX1 : Hid (RBox R w.heap.size w1) := HX0.out.below hb1
      have HL1 : Hid (Lies R w1.heap.size w1) := HL.out.at HB1.out
      clear hb1
      (try clear c0 c1)
      obtain ⟨_, c0, c1⟩ := HX1.out
      go_wp2_with fail
      refine (end_call R t K _ HL1.out).mono ?_
      rw [EA.out, EE.out]
      rintro e w2 ⟨rfl, hb2⟩
      have HB2 : Hid (Below w.heap.size w w2) := HB1.out.trans (hb2.mono HB1.out.size)
      have HX2 : Hid (RBox R w.heap.size w2) := HX1.out.below hb2
      have HL2 : Hid (Lies R w2.heap.size w2) := HL.out.at HB2.out
      clear hb2
      (try clear c0 c1)
      obtain ⟨_, c0, c1⟩ := HX2.out
      go_wp2_with fail
      refine (alive_any _).mono ?_
      rintro e w3 ⟨rfl, hb3⟩
      have HB3 : Hid (Below w.heap.size w w3) := HB2.out.trans (hb3.mono HB2.out.size)
      have HX3 : Hid (RBox R w.heap.size w3) := HX2.out.below hb3
      have HL3 : Hid (Lies R w3.heap.size w3) := HL.out.at HB3.out
      clear hb3
      (try clear c0 c1)
      obtain ⟨_, c0, c1⟩ := HX3.out
      go_wp2_with fail
      go_ret
      exact ⟨rfl, HB3.out⟩
    · by_cases y2 : en - fr ≤ y
      · clear hy
        have HL : Hid (Lies R w.heap.size w) := hL
        have HB0 : Hid (Below w.heap.size w (w.alloc (.cells #[.slice R.a R.len R.cap, .int .i64 R.kp] 24))) := new_below _ _
        have HX0 : Hid (RBox R w.heap.size (w.alloc (.cells #[.slice R.a R.len R.cap, .int .i64 R.kp] 24))) := RBox.new R w _
        have HL0 : Hid (Lies R (w.alloc (.cells #[.slice R.a R.len R.cap, .int .i64 R.kp] 24)).heap.size (w.alloc (.cells #[.slice R.a R.len R.cap, .int .i64 R.kp] 24))) := HL.out.at HB0.out
        clear hL
        go_enter Try.func7, Try.ntmps7
        go_wp2_with fail
        refine (bucket_any R t wm K HK.out _ HL0.out).mono ?_
        rw [BA.out, SA.out, HF.out]
        rintro e w1 ⟨rfl, hb1⟩
        have HB1 : Hid (Below w.heap.size w w1) := HB0.out.trans (hb1.mono HB0.out.size)
        have HX1 : Hid (RBox R w.heap.size w1) := HX0.out.below hb1
        have HL1 : Hid (Lies R w1.heap.size w1) := HL.out.at HB1.out
        clear hb1
        (try clear c0 c1)
        obtain ⟨_, c0, c1⟩ := HX1.out
        go_wp2_with fail
        refine (end_call R t K _ HL1.out).mono ?_
        rw [EA.out, EE.out]
        rintro e w2 ⟨rfl, hb2⟩
        have HB2 : Hid (Below w.heap.size w w2) := HB1.out.trans (hb2.mono HB1.out.size)
        have HX2 : Hid (RBox R w.heap.size w2) := HX1.out.below hb2
        have HL2 : Hid (Lies R w2.heap.size w2) := HL.out.at HB2.out
        clear hb2
        (try clear c0 c1)
        obtain ⟨_, c0, c1⟩ := HX2.out
        go_wp2_with fail
        refine (alive_any _).mono ?_
        rintro e w3 ⟨rfl, hb3⟩
        have HB3 : Hid (Below w.heap.size w w3) := HB2.out.trans (hb3.mono HB2.out.size)
        have HX3 : Hid (RBox R w.heap.size w3) := HX2.out.below hb3
        have HL3 : Hid (Lies R w3.heap.size w3) := HL.out.at HB3.out
        clear hb3
        (try clear c0 c1)
        obtain ⟨_, c0, c1⟩ := HX3.out
        go_wp2_with fail
        go_ret
        exact ⟨rfl, HB3.out⟩
      · have y3 : 1099511627776 - y < fr := by omega
        have hwy : IntKind.i64.wrap (1099511627776 - y) = 1099511627776 - y := by rw [IntKind.wrap_i64]; omega
        clear hy
        have HL : Hid (Lies R w.heap.size w) := hL
        have HB0 : Hid (Below w.heap.size w (w.alloc (.cells #[.slice R.a R.len R.cap, .int .i64 R.kp] 24))) := new_below _ _
        have HX0 : Hid (RBox R w.heap.size (w.alloc (.cells #[.slice R.a R.len R.cap, .int .i64 R.kp] 24))) := RBox.new R w _
        have HL0 : Hid (Lies R (w.alloc (.cells #[.slice R.a R.len R.cap, .int .i64 R.kp] 24)).heap.size (w.alloc (.cells #[.slice R.a R.len R.cap, .int .i64 R.kp] 24))) := HL.out.at HB0.out
        clear hL
        go_enter Try.func7, Try.ntmps7
        go_wp2_with fail
        refine (bucket_any R t wm K HK.out _ HL0.out).mono ?_
        rw [BA.out, SA.out, HF.out]
        rintro e w1 ⟨rfl, hb1⟩
        have HB1 : Hid (Below w.heap.size w w1) := HB0.out.trans (hb1.mono HB0.out.size)
        have HX1 : Hid (RBox R w.heap.size w1) := HX0.out.below hb1
        have HL1 : Hid (Lies R w1.heap.size w1) := HL.out.at HB1.out
        clear hb1
        (try clear c0 c1)
        obtain ⟨_, c0, c1⟩ := HX1.out
        go_wp2_with fail
        refine (end_call R t K _ HL1.out).mono ?_
        rw [EA.out, EE.out]
        rintro e w2 ⟨rfl, hb2⟩
        have HB2 : Hid (Below w.heap.size w w2) := HB1.out.trans (hb2.mono HB1.out.size)
        have HX2 : Hid (RBox R w.heap.size w2) := HX1.out.below hb2
        have HL2 : Hid (Lies R w2.heap.size w2) := HL.out.at HB2.out
        clear hb2
        (try clear c0 c1)
        obtain ⟨_, c0, c1⟩ := HX2.out
        go_wp2_with fail
        refine (alive_any _).mono ?_
        rintro e w3 ⟨rfl, hb3⟩
        have HB3 : Hid (Below w.heap.size w w3) := HB2.out.trans (hb3.mono HB2.out.size)
        have HX3 : Hid (RBox R w.heap.size w3) := HX2.out.below hb3
        have HL3 : Hid (Lies R w3.heap.size w3) := HL.out.at HB3.out
        clear hb3
        (try clear c0 c1)
        obtain ⟨_, c0, c1⟩ := HX3.out
        go_wp2_with fail
        go_ret
        exact ⟨rfl, HB3.out⟩
  · have y1 : ¬ y < 0 := by omega
    have y2 : ¬ en - fr ≤ y := by omega
    have y3 : ¬ 1099511627776 - y < fr := by omega
    have hwy : IntKind.i64.wrap (1099511627776 - y) = 1099511627776 - y := by rw [IntKind.wrap_i64]; omega
    have hwu : IntKind.i64.wrap (fr + y) = fr + y := by rw [IntKind.wrap_i64]; omega
    obtain ⟨u1, u2, u3, u4, u5⟩ := HU.out (by omega) (by rw [HZ.out]; omega) (by omega)
    have U1 : Hid (fE R (fr + y) wm = 0) := u1
    have U2 : Hid (fE R (fr + y) wm = 0 → IsStep R (fr + y) wm K) := fun _ => u2
    have U3 : Hid (buA R (fr + y) wm K = fr) := u3
    have U4 : Hid (stA R (fr + y) wm K = K) := u4
    have U5 : Hid (exA R (fr + y) wm = exA R t wm) := u5
    clear hy HU HZ u1 u2 u3 u4 u5
    have HL : Hid (Lies R w.heap.size w) := hL
    have HB0 : Hid (Below w.heap.size w (w.alloc (.cells #[.slice R.a R.len R.cap, .int .i64 R.kp] 24))) := new_below _ _
    have HX0 : Hid (RBox R w.heap.size (w.alloc (.cells #[.slice R.a R.len R.cap, .int .i64 R.kp] 24))) := RBox.new R w _
    have HL0 : Hid (Lies R (w.alloc (.cells #[.slice R.a R.len R.cap, .int .i64 R.kp] 24)).heap.size (w.alloc (.cells #[.slice R.a R.len R.cap, .int .i64 R.kp] 24))) := HL.out.at HB0.out
    clear hL
    go_enter Try.func7, Try.ntmps7
    go_wp2_with fail
    refine (bucket_any R t wm K HK.out _ HL0.out).mono ?_
    rw [BA.out, SA.out, HF.out]
    rintro e w1 ⟨rfl, hb1⟩
    have HB1 : Hid (Below w.heap.size w w1) := HB0.out.trans (hb1.mono HB0.out.size)
    have HX1 : Hid (RBox R w.heap.size w1) := HX0.out.below hb1
    have HL1 : Hid (Lies R w1.heap.size w1) := HL.out.at HB1.out
    clear hb1
    (try clear c0 c1)
    obtain ⟨_, c0, c1⟩ := HX1.out
    go_wp2_with fail
    refine (end_call R t K _ HL1.out).mono ?_
    rw [EA.out, EE.out]
    rintro e w2 ⟨rfl, hb2⟩
    have HB2 : Hid (Below w.heap.size w w2) := HB1.out.trans (hb2.mono HB1.out.size)
    have HX2 : Hid (RBox R w.heap.size w2) := HX1.out.below hb2
    have HL2 : Hid (Lies R w2.heap.size w2) := HL.out.at HB2.out
    clear hb2
    (try clear c0 c1)
    obtain ⟨_, c0, c1⟩ := HX2.out
    go_wp2_with fail
    refine (bucket_any R (fr + y) wm K U2.out _ HL2.out).mono ?_
    rw [U1.out, U3.out, U4.out]
    rintro e w3 ⟨rfl, hb3⟩
    have HB3 : Hid (Below w.heap.size w w3) := HB2.out.trans (hb3.mono HB2.out.size)
    have HX3 : Hid (RBox R w.heap.size w3) := HX2.out.below hb3
    have HL3 : Hid (Lies R w3.heap.size w3) := HL.out.at HB3.out
    clear hb3
    (try clear c0 c1)
    obtain ⟨_, c0, c1⟩ := HX3.out
    go_wp2_with fail
    refine (expired_any R t wm _ HL3.out).mono ?_
    rw [HF.out]
    rintro e w4 ⟨rfl, hb4⟩
    have HB4 : Hid (Below w.heap.size w w4) := HB3.out.trans (hb4.mono HB3.out.size)
    have HX4 : Hid (RBox R w.heap.size w4) := HX3.out.below hb4
    have HL4 : Hid (Lies R w4.heap.size w4) := HL.out.at HB4.out
    clear hb4
    (try clear c0 c1)
    obtain ⟨_, c0, c1⟩ := HX4.out
    go_wp2_with fail
    refine (expired_any R (fr + y) wm _ HL4.out).mono ?_
    rw [U1.out, U5.out]
    rintro e w5 ⟨rfl, hb5⟩
    have HB5 : Hid (Below w.heap.size w w5) := HB4.out.trans (hb5.mono HB4.out.size)
    have HX5 : Hid (RBox R w.heap.size w5) := HX4.out.below hb5
    have HL5 : Hid (Lies R w5.heap.size w5) := HL.out.at HB5.out
    clear hb5
    (try clear c0 c1)
    obtain ⟨_, c0, c1⟩ := HX5.out
    go_wp2_with fail
    refine (alive_any _).mono ?_
    rintro e w6 ⟨rfl, hb6⟩
    have HB6 : Hid (Below w.heap.size w w6) := HB5.out.trans (hb6.mono HB5.out.size)
    have HX6 : Hid (RBox R w.heap.size w6) := HX5.out.below hb6
    have HL6 : Hid (Lies R w6.heap.size w6) := HL.out.at HB6.out
    clear hb6
    (try clear c0 c1)
    obtain ⟨_, c0, c1⟩ := HX6.out
    go_wp2_with fail
    go_ret
    exact ⟨rfl, HB6.out⟩
theorem wholeWalk (R : Rl) (t wm y : Int) (w : World) (hL : Lies R w.heap.size w) :
    Calls Try.prog 7 #[.agg #[.slice R.a R.len R.cap, .int .i64 R.kp], .int .i64 t, .int .i64 wm, .int .i64 y] w fun e w' => e = .returned (.bool true) ∧ Below w.heap.size w w' := by
  by_cases h : fE R t wm = 0
  · exact whole_yes R t wm y w hL h
  · exact whole_no R t wm y w hL h
end Go.Proofs.Ytfgnojmpnkjdmaa
