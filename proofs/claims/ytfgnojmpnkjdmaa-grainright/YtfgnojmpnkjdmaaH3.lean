/- The contracts of the reference's Bucket, Expired and End. -/
import Derived.Test.YtfgnojmpnkjdmaaH2
namespace Go.Proofs.Ytfgnojmpnkjdmaa
open Go.RowKit

set_option maxRecDepth 100000 in
set_option maxHeartbeats 1000000 in
theorem refBucket_any (R : Rl) (t wm : Int) (K : Nat) (hK : fE R t wm = 0 → IsStep R t wm K) (w : World) (hL : Lies R w.heap.size w) :
    Calls Try.prog 17 #[.agg #[.slice R.a R.len R.cap, .int .i64 R.kp], .int .i64 t, .int .i64 wm] w fun e w' => e = .returned (.tuple #[.int .i64 (buA R t wm K), .int .i64 (stA R t wm K), .int .i64 (fE R t wm)]) ∧ Below w.heap.size w w' := by
  have HKK : Hid (fE R t wm = 0 → IsStep R t wm K) := hK
  by_cases h0 : fE R t wm = 0
  · have SA : Hid (stA R t wm K = K) := by unfold Hid stA; rw [if_pos h0]
    have hb : buA R t wm K = t - t % R.sz K := by unfold buA; rw [if_pos h0]
    rw [SA.out, hb, h0]
    have HK : Hid (IsStep R t wm K) := hK h0
    have HF : Hid (RightP R ∧ isT t = true ∧ isT wm = true) := fE_ok h0
    have H0 : Hid (fE R t wm = 0) := h0
    obtain ⟨b, off, ha⟩ := row_b HF.out.1 hL
    have HA : Hid (R.a = some ⟨b, off, none⟩) := ha
    have i1 : (K : Int) < (R.len : Int) := by have := HK.out.1; omega
    have FV : Hid (floorV t (R.sz K) = .tuple #[.int .i64 (t - t % R.sz K), .int .i64 0]) := floorV_ok HF.out.2.1 (sz_ok HF.out.1 HK.out.1)
    clear h0 hK hb ha
    have HL : Hid (Lies R w.heap.size w) := hL
    have HB0 : Hid (Below w.heap.size w (w.alloc (.cells #[.slice R.a R.len R.cap, .int .i64 R.kp] 24))) := new_below _ _
    have HX0 : Hid (RBox R w.heap.size (w.alloc (.cells #[.slice R.a R.len R.cap, .int .i64 R.kp] 24))) := RBox.new R w _
    have HL0 : Hid (Lies R (w.alloc (.cells #[.slice R.a R.len R.cap, .int .i64 R.kp] 24)).heap.size (w.alloc (.cells #[.slice R.a R.len R.cap, .int .i64 R.kp] 24))) := HL.out.at HB0.out
    clear hL
    go_enter Try.func17, Try.ntmps17
    go_wp2_with fail
    refine (refStep_any R t wm K HKK.out _ HL0.out).mono ?_
    rw [SA.out, H0.out]
    rintro e w1 ⟨rfl, hb1⟩
    have HB1 : Hid (Below w.heap.size w w1) := HB0.out.trans (hb1.mono HB0.out.size)
    have HX1 : Hid (RBox R w.heap.size w1) := HX0.out.below hb1
    have HL1 : Hid (Lies R w1.heap.size w1) := HL.out.at HB1.out
    clear hb1
    (try clear c0 c1)
    obtain ⟨_, c0, c1⟩ := HX1.out
    (try rw [HA.out] at c0)
    obtain ⟨dzK, daK⟩ := row_at HA.out HL1.out (k := K) HK.out.1
    go_wp2_with fail
    refine (refFloor_any t (R.sz K) _).mono ?_
    rw [FV.out]
    rintro e w' ⟨rfl, hw'⟩
    subst w'
    go_wp2_with fail
    go_ret3
    exact ⟨rfl, HB1.out⟩
  · have hs : stA R t wm K = 0 := by unfold stA; rw [if_neg h0]
    have hb : buA R t wm K = 0 := by unfold buA; rw [if_neg h0]
    have SA : Hid (stA R t wm K = 0) := hs
    rw [hs, hb]
    have hne : (fE R t wm == 0) = false := by simpa using h0
    have hne2 : (fE R t wm != 0) = true := by simpa using h0
    clear h0 hK hs hb
    have HL : Hid (Lies R w.heap.size w) := hL
    have HB0 : Hid (Below w.heap.size w (w.alloc (.cells #[.slice R.a R.len R.cap, .int .i64 R.kp] 24))) := new_below _ _
    have HX0 : Hid (RBox R w.heap.size (w.alloc (.cells #[.slice R.a R.len R.cap, .int .i64 R.kp] 24))) := RBox.new R w _
    have HL0 : Hid (Lies R (w.alloc (.cells #[.slice R.a R.len R.cap, .int .i64 R.kp] 24)).heap.size (w.alloc (.cells #[.slice R.a R.len R.cap, .int .i64 R.kp] 24))) := HL.out.at HB0.out
    clear hL
    go_enter Try.func17, Try.ntmps17
    go_wp2_with fail
    refine (refStep_any R t wm K HKK.out _ HL0.out).mono ?_
    rw [SA.out]
    rintro e w1 ⟨rfl, hb1⟩
    have HB1 : Hid (Below w.heap.size w w1) := HB0.out.trans (hb1.mono HB0.out.size)
    have HX1 : Hid (RBox R w.heap.size w1) := HX0.out.below hb1
    have HL1 : Hid (Lies R w1.heap.size w1) := HL.out.at HB1.out
    clear hb1
    (try clear c0 c1)
    obtain ⟨_, c0, c1⟩ := HX1.out
    go_wp2_with fail
    go_ret3
    exact ⟨rfl, HB1.out⟩

set_option maxRecDepth 100000 in
set_option maxHeartbeats 1000000 in
theorem refExpired_any (R : Rl) (t wm : Int) (w : World) (hL : Lies R w.heap.size w) :
    Calls Try.prog 19 #[.agg #[.slice R.a R.len R.cap, .int .i64 R.kp], .int .i64 t, .int .i64 wm] w fun e w' => e = .returned (.tuple #[.bool (exA R t wm), .int .i64 (fE R t wm)]) ∧ Below w.heap.size w w' := by
  unfold exA
  by_cases h0 : fE R t wm = 0
  · rw [if_pos h0, h0]
    have HF : Hid (RightP R ∧ isT t = true ∧ isT wm = true) := fE_ok h0
    have H0 : Hid (fE R t wm = 0) := h0
    obtain ⟨m, hm⟩ : ∃ m, R.len = m + 1 := ⟨R.len - 1, by have := HF.out.1.1; omega⟩
    have em : R.len - 1 = m := by omega
    rw [em]
    have hle := HF.out.1.2.1
    have hkp1 := HF.out.1.2.2.2.2.1
    have hkp2 := HF.out.1.2.2.2.2.2
    have hag := (isT_iff _).1 (ag_ok HF.out.1 (i := R.len - 1) (by omega))
    have hs := (isS_iff _).1 (sz_ok HF.out.1 (i := m) (by omega))
    have ht := (isT_iff _).1 HF.out.2.1
    have hmd := mod_bd t (R.sz m) ht.1 hs.1
    have hwl : IntKind.i64.wrap ((R.len : Int) - 1) = (m : Int) := by rw [IntKind.wrap_i64]; omega
    have hw1 : IntKind.i64.wrap (t - t % R.sz m + R.sz m) = t - t % R.sz m + R.sz m := by rw [IntKind.wrap_i64]; omega
    have hw2 : IntKind.i64.wrap (t - t % R.sz m + R.sz m + R.kp) = t - t % R.sz m + R.sz m + R.kp := by rw [IntKind.wrap_i64]; omega
    have i0 : (0 : Int) ≤ (m : Int) := by omega
    have i1 : (m : Int) < (R.len : Int) := by omega
    have HM : Hid (m < R.len) := by unfold Hid; omega
    have FV : Hid (floorV t (R.sz m) = .tuple #[.int .i64 (t - t % R.sz m), .int .i64 0]) := floorV_ok HF.out.2.1 (sz_ok HF.out.1 HM.out)
    have HD : decide (endF t (R.sz m) ≤ wm - R.kp) = decide (t - t % R.sz m + R.sz m + R.kp ≤ wm) := by
      apply decide_eq_decide.2; unfold endF; omega
    rw [HD]
    obtain ⟨b, off, ha⟩ := row_b HF.out.1 hL
    have HA : Hid (R.a = some ⟨b, off, none⟩) := ha
    clear hkp1 hkp2 hag hm em hle hs ht hmd h0 HD ha
    generalize t - t % R.sz m = fl at *
    generalize hr : decide (fl + R.sz m + R.kp ≤ wm) = r
    cases r
    · skip
      have HL : Hid (Lies R w.heap.size w) := hL
      have HB0 : Hid (Below w.heap.size w (w.alloc (.cells #[.slice R.a R.len R.cap, .int .i64 R.kp] 24))) := new_below _ _
      have HX0 : Hid (RBox R w.heap.size (w.alloc (.cells #[.slice R.a R.len R.cap, .int .i64 R.kp] 24))) := RBox.new R w _
      have HL0 : Hid (Lies R (w.alloc (.cells #[.slice R.a R.len R.cap, .int .i64 R.kp] 24)).heap.size (w.alloc (.cells #[.slice R.a R.len R.cap, .int .i64 R.kp] 24))) := HL.out.at HB0.out
      clear hL
      go_enter Try.func19, Try.ntmps19
      go_wp2_with fail
      refine (refMay_any R t wm _ HL0.out).mono ?_
      rw [H0.out]
      rintro e w1 ⟨rfl, hb1⟩
      have HB1 : Hid (Below w.heap.size w w1) := HB0.out.trans (hb1.mono HB0.out.size)
      have HX1 : Hid (RBox R w.heap.size w1) := HX0.out.below hb1
      have HL1 : Hid (Lies R w1.heap.size w1) := HL.out.at HB1.out
      clear hb1
      (try clear c0 c1)
      obtain ⟨_, c0, c1⟩ := HX1.out
      (try rw [HA.out] at c0)
      obtain ⟨dzm, dam⟩ := row_at HA.out HL1.out (k := m) HM.out
      go_wp2_with fail
      refine (refFloor_any t (R.sz m) _).mono ?_
      rw [FV.out]
      rintro e w' ⟨rfl, hw'⟩
      subst w'
      go_wp2_with fail
      go_ret2
      exact ⟨rfl, HB1.out⟩
    · skip
      have HL : Hid (Lies R w.heap.size w) := hL
      have HB0 : Hid (Below w.heap.size w (w.alloc (.cells #[.slice R.a R.len R.cap, .int .i64 R.kp] 24))) := new_below _ _
      have HX0 : Hid (RBox R w.heap.size (w.alloc (.cells #[.slice R.a R.len R.cap, .int .i64 R.kp] 24))) := RBox.new R w _
      have HL0 : Hid (Lies R (w.alloc (.cells #[.slice R.a R.len R.cap, .int .i64 R.kp] 24)).heap.size (w.alloc (.cells #[.slice R.a R.len R.cap, .int .i64 R.kp] 24))) := HL.out.at HB0.out
      clear hL
      go_enter Try.func19, Try.ntmps19
      go_wp2_with fail
      refine (refMay_any R t wm _ HL0.out).mono ?_
      rw [H0.out]
      rintro e w1 ⟨rfl, hb1⟩
      have HB1 : Hid (Below w.heap.size w w1) := HB0.out.trans (hb1.mono HB0.out.size)
      have HX1 : Hid (RBox R w.heap.size w1) := HX0.out.below hb1
      have HL1 : Hid (Lies R w1.heap.size w1) := HL.out.at HB1.out
      clear hb1
      (try clear c0 c1)
      obtain ⟨_, c0, c1⟩ := HX1.out
      (try rw [HA.out] at c0)
      obtain ⟨dzm, dam⟩ := row_at HA.out HL1.out (k := m) HM.out
      go_wp2_with fail
      refine (refFloor_any t (R.sz m) _).mono ?_
      rw [FV.out]
      rintro e w' ⟨rfl, hw'⟩
      subst w'
      go_wp2_with fail
      go_ret2
      exact ⟨rfl, HB1.out⟩
  · rw [if_neg h0]
    have hne : (fE R t wm == 0) = false := by simpa using h0
    have hne2 : (fE R t wm != 0) = true := by simpa using h0
    clear h0
    have HL : Hid (Lies R w.heap.size w) := hL
    have HB0 : Hid (Below w.heap.size w (w.alloc (.cells #[.slice R.a R.len R.cap, .int .i64 R.kp] 24))) := new_below _ _
    have HX0 : Hid (RBox R w.heap.size (w.alloc (.cells #[.slice R.a R.len R.cap, .int .i64 R.kp] 24))) := RBox.new R w _
    have HL0 : Hid (Lies R (w.alloc (.cells #[.slice R.a R.len R.cap, .int .i64 R.kp] 24)).heap.size (w.alloc (.cells #[.slice R.a R.len R.cap, .int .i64 R.kp] 24))) := HL.out.at HB0.out
    clear hL
    go_enter Try.func19, Try.ntmps19
    go_wp2_with fail
    refine (refMay_any R t wm _ HL0.out).mono ?_
    rintro e w1 ⟨rfl, hb1⟩
    have HB1 : Hid (Below w.heap.size w w1) := HB0.out.trans (hb1.mono HB0.out.size)
    have HX1 : Hid (RBox R w.heap.size w1) := HX0.out.below hb1
    have HL1 : Hid (Lies R w1.heap.size w1) := HL.out.at HB1.out
    clear hb1
    (try clear c0 c1)
    obtain ⟨_, c0, c1⟩ := HX1.out
    go_wp2_with fail
    go_ret2
    exact ⟨rfl, HB1.out⟩

theorem fE_en (R : Rl) (t s : Int) (h : enE R t s = 0) : fE R t 0 = 0 := by
  obtain ⟨h1, h2, _⟩ := enE_ok h
  exact fE_of h1 h2 (by decide)
theorem fE_en1 (R : Rl) (t s : Int) (h : fE R t 0 ≠ 0) : enE R t s = fE R t 0 := by
  unfold fE enE at *
  by_cases hR : RightP R
  · rw [if_pos hR] at h ⊢
    rw [if_pos hR]
    cases ht : isT t
    · rfl
    · rw [ht] at h
      exact absurd (by decide) h
  · rw [if_neg hR, if_neg hR]
theorem fE_en2 (R : Rl) (t s : Int) (h : fE R t 0 = 0) (h2 : s < 0 ∨ (R.len : Int) ≤ s) : enE R t s = 1 := by
  obtain ⟨h1, h3, _⟩ := fE_ok h
  unfold enE
  rw [if_pos h1, if_neg]
  simp
  omega
set_option maxRecDepth 100000 in
set_option maxHeartbeats 1000000 in
theorem refEnd_any (R : Rl) (t s : Int) (w : World) (hL : Lies R w.heap.size w) :
    Calls Try.prog 21 #[.agg #[.slice R.a R.len R.cap, .int .i64 R.kp], .int .i64 t, .int .i64 s] w fun e w' => e = .returned (.tuple #[.int .i64 (enA R t s), .int .i64 (enE R t s)]) ∧ Below w.heap.size w w' := by
  by_cases h0 : fE R t 0 = 0
  · have HF : Hid (RightP R ∧ isT t = true ∧ isT 0 = true) := fE_ok h0
    have H0 : Hid (fE R t 0 = 0) := h0
    by_cases hs : s < 0 ∨ (R.len : Int) ≤ s
    · have e1 := fE_en2 R t s h0 hs
      have e2 : enA R t s = 0 := by unfold enA; rw [if_neg (by rw [e1]; decide)]
      rw [e1, e2]
      clear h0 e1 e2
      by_cases h1 : s < 0
      · clear hs
        have HL : Hid (Lies R w.heap.size w) := hL
        have HB0 : Hid (Below w.heap.size w (w.alloc (.cells #[.slice R.a R.len R.cap, .int .i64 R.kp] 24))) := new_below _ _
        have HX0 : Hid (RBox R w.heap.size (w.alloc (.cells #[.slice R.a R.len R.cap, .int .i64 R.kp] 24))) := RBox.new R w _
        have HL0 : Hid (Lies R (w.alloc (.cells #[.slice R.a R.len R.cap, .int .i64 R.kp] 24)).heap.size (w.alloc (.cells #[.slice R.a R.len R.cap, .int .i64 R.kp] 24))) := HL.out.at HB0.out
        clear hL
        go_enter Try.func21, Try.ntmps21
        go_wp2_with fail
        refine (refMay_any R t 0 _ HL0.out).mono ?_
        rw [H0.out]
        rintro e w1 ⟨rfl, hb1⟩
        have HB1 : Hid (Below w.heap.size w w1) := HB0.out.trans (hb1.mono HB0.out.size)
        have HX1 : Hid (RBox R w.heap.size w1) := HX0.out.below hb1
        have HL1 : Hid (Lies R w1.heap.size w1) := HL.out.at HB1.out
        clear hb1
        (try clear c0 c1)
        obtain ⟨_, c0, c1⟩ := HX1.out
        go_wp2_with fail
        go_ret2
        exact ⟨rfl, HB1.out⟩
      · have h2 : (R.len : Int) ≤ s := by omega
        clear hs
        have HL : Hid (Lies R w.heap.size w) := hL
        have HB0 : Hid (Below w.heap.size w (w.alloc (.cells #[.slice R.a R.len R.cap, .int .i64 R.kp] 24))) := new_below _ _
        have HX0 : Hid (RBox R w.heap.size (w.alloc (.cells #[.slice R.a R.len R.cap, .int .i64 R.kp] 24))) := RBox.new R w _
        have HL0 : Hid (Lies R (w.alloc (.cells #[.slice R.a R.len R.cap, .int .i64 R.kp] 24)).heap.size (w.alloc (.cells #[.slice R.a R.len R.cap, .int .i64 R.kp] 24))) := HL.out.at HB0.out
        clear hL
        go_enter Try.func21, Try.ntmps21
        go_wp2_with fail
        refine (refMay_any R t 0 _ HL0.out).mono ?_
        rw [H0.out]
        rintro e w1 ⟨rfl, hb1⟩
        have HB1 : Hid (Below w.heap.size w w1) := HB0.out.trans (hb1.mono HB0.out.size)
        have HX1 : Hid (RBox R w.heap.size w1) := HX0.out.below hb1
        have HL1 : Hid (Lies R w1.heap.size w1) := HL.out.at HB1.out
        clear hb1
        (try clear c0 c1)
        obtain ⟨_, c0, c1⟩ := HX1.out
        go_wp2_with fail
        go_ret2
        exact ⟨rfl, HB1.out⟩
    · obtain ⟨k, hk⟩ : ∃ k : Nat, s = k := ⟨s.toNat, by omega⟩
      subst hk
      have HM : Hid (k < R.len) := by unfold Hid; omega
      rw [enE_of HF.out.1 HF.out.2.1 HM.out, enA_of HF.out.1 HF.out.2.1 HM.out]
      unfold endF
      have i1 : (k : Int) < (R.len : Int) := by have := HM.out; omega
      have hsz := (isS_iff _).1 (sz_ok HF.out.1 HM.out)
      have ht := (isT_iff _).1 HF.out.2.1
      have hmd := mod_bd t (R.sz k) ht.1 hsz.1
      have hw1 : IntKind.i64.wrap (t - t % R.sz k + R.sz k) = t - t % R.sz k + R.sz k := by rw [IntKind.wrap_i64]; omega
      have FV : Hid (floorV t (R.sz k) = .tuple #[.int .i64 (t - t % R.sz k), .int .i64 0]) := floorV_ok HF.out.2.1 (sz_ok HF.out.1 HM.out)
      obtain ⟨b, off, ha⟩ := row_b HF.out.1 hL
      have HA : Hid (R.a = some ⟨b, off, none⟩) := ha
      clear h0 hs hsz ht hmd ha
      generalize t - t % R.sz k = fl at *
      have HL : Hid (Lies R w.heap.size w) := hL
      have HB0 : Hid (Below w.heap.size w (w.alloc (.cells #[.slice R.a R.len R.cap, .int .i64 R.kp] 24))) := new_below _ _
      have HX0 : Hid (RBox R w.heap.size (w.alloc (.cells #[.slice R.a R.len R.cap, .int .i64 R.kp] 24))) := RBox.new R w _
      have HL0 : Hid (Lies R (w.alloc (.cells #[.slice R.a R.len R.cap, .int .i64 R.kp] 24)).heap.size (w.alloc (.cells #[.slice R.a R.len R.cap, .int .i64 R.kp] 24))) := HL.out.at HB0.out
      clear hL
      go_enter Try.func21, Try.ntmps21
      go_wp2_with fail
      refine (refMay_any R t 0 _ HL0.out).mono ?_
      rw [H0.out]
      rintro e w1 ⟨rfl, hb1⟩
      have HB1 : Hid (Below w.heap.size w w1) := HB0.out.trans (hb1.mono HB0.out.size)
      have HX1 : Hid (RBox R w.heap.size w1) := HX0.out.below hb1
      have HL1 : Hid (Lies R w1.heap.size w1) := HL.out.at HB1.out
      clear hb1
      (try clear c0 c1)
      obtain ⟨_, c0, c1⟩ := HX1.out
      (try rw [HA.out] at c0)
      obtain ⟨dzk, dak⟩ := row_at HA.out HL1.out (k := k) HM.out
      go_wp2_with fail
      refine (refFloor_any t (R.sz k) _).mono ?_
      rw [FV.out]
      rintro e w' ⟨rfl, hw'⟩
      subst w'
      go_wp2_with fail
      go_ret2
      exact ⟨rfl, HB1.out⟩
  · have e1 := fE_en1 R t s h0
    have e2 : enA R t s = 0 := by unfold enA; rw [if_neg (by rw [e1]; exact h0)]
    rw [e1, e2]
    have hne : (fE R t 0 == 0) = false := by simpa using h0
    have hne2 : (fE R t 0 != 0) = true := by simpa using h0
    clear h0 e1 e2
    have HL : Hid (Lies R w.heap.size w) := hL
    have HB0 : Hid (Below w.heap.size w (w.alloc (.cells #[.slice R.a R.len R.cap, .int .i64 R.kp] 24))) := new_below _ _
    have HX0 : Hid (RBox R w.heap.size (w.alloc (.cells #[.slice R.a R.len R.cap, .int .i64 R.kp] 24))) := RBox.new R w _
    have HL0 : Hid (Lies R (w.alloc (.cells #[.slice R.a R.len R.cap, .int .i64 R.kp] 24)).heap.size (w.alloc (.cells #[.slice R.a R.len R.cap, .int .i64 R.kp] 24))) := HL.out.at HB0.out
    clear hL
    go_enter Try.func21, Try.ntmps21
    go_wp2_with fail
    refine (refMay_any R t 0 _ HL0.out).mono ?_
    rintro e w1 ⟨rfl, hb1⟩
    have HB1 : Hid (Below w.heap.size w w1) := HB0.out.trans (hb1.mono HB0.out.size)
    have HX1 : Hid (RBox R w.heap.size w1) := HX0.out.below hb1
    have HL1 : Hid (Lies R w1.heap.size w1) := HL.out.at HB1.out
    clear hb1
    (try clear c0 c1)
    obtain ⟨_, c0, c1⟩ := HX1.out
    go_wp2_with fail
    go_ret2
    exact ⟨rfl, HB1.out⟩
end Go.Proofs.Ytfgnojmpnkjdmaa
