/- The contracts of the reference's May, Step, Bucket, Expired and End. -/
import Derived.Test.YtfgnojmpnkjdmaaH1
namespace Go.Proofs.Ytfgnojmpnkjdmaa
open Go.RowKit

set_option maxRecDepth 100000 in
set_option maxHeartbeats 1000000 in
theorem refMay_any (R : Rl) (t wm : Int) (w : World) (hL : Lies R w.heap.size w) :
    Calls Try.prog 29 #[.agg #[.slice R.a R.len R.cap, .int .i64 R.kp], .int .i64 t, .int .i64 wm] w fun e w' => e = .returned (.int .i64 (fE R t wm)) ∧ Below w.heap.size w w' := by
  have HL : Hid (Lies R w.heap.size w) := hL
  clear hL
  unfold fE
  by_cases hR : RightP R
  · rw [if_pos hR]
    have hd : decide (RightP R) = true := by simpa using hR
    clear hR
    cases ht : isT t
    · go_enter Try.func29, Try.ntmps29
      go_wp2_with fail
      refine (refRight_any R _ (HL.out.at (new_below _ _))).mono ?_
      rw [hd]
      rintro e w1 ⟨rfl, hb1⟩
      have HB1 : Hid (Below w.heap.size w w1) := (new_below _ _).trans (hb1.mono (by simp))
      clear hb1 hd
      go_wp2_with fail
      refine (refTime_any t _).mono ?_
      rw [ht]
      rintro e w' ⟨rfl, rfl⟩
      clear ht
      go_wp2_with fail
      go_ret
      exact ⟨rfl, HB1.out⟩
    · cases hw : isT wm
      · go_enter Try.func29, Try.ntmps29
        go_wp2_with fail
        refine (refRight_any R _ (HL.out.at (new_below _ _))).mono ?_
        rw [hd]
        rintro e w1 ⟨rfl, hb1⟩
        have HB1 : Hid (Below w.heap.size w w1) := (new_below _ _).trans (hb1.mono (by simp))
        clear hb1 hd
        go_wp2_with fail
        refine (refTime_any t _).mono ?_
        rw [ht]
        rintro e w' ⟨rfl, rfl⟩
        clear ht
        go_wp2_with fail
        refine (refTime_any wm _).mono ?_
        rw [hw]
        rintro e w' ⟨rfl, rfl⟩
        clear hw
        go_wp2_with fail
        go_ret
        exact ⟨rfl, HB1.out⟩
      · go_enter Try.func29, Try.ntmps29
        go_wp2_with fail
        refine (refRight_any R _ (HL.out.at (new_below _ _))).mono ?_
        rw [hd]
        rintro e w1 ⟨rfl, hb1⟩
        have HB1 : Hid (Below w.heap.size w w1) := (new_below _ _).trans (hb1.mono (by simp))
        clear hb1 hd
        go_wp2_with fail
        refine (refTime_any t _).mono ?_
        rw [ht]
        rintro e w' ⟨rfl, rfl⟩
        clear ht
        go_wp2_with fail
        refine (refTime_any wm _).mono ?_
        rw [hw]
        rintro e w' ⟨rfl, rfl⟩
        clear hw
        go_wp2_with fail
        go_ret
        exact ⟨rfl, HB1.out⟩
  · rw [if_neg hR]
    have hd : decide (RightP R) = false := by simpa using hR
    clear hR
    go_enter Try.func29, Try.ntmps29
    go_wp2_with fail
    refine (refRight_any R _ (HL.out.at (new_below _ _))).mono ?_
    rw [hd]
    rintro e w1 ⟨rfl, hb1⟩
    have HB1 : Hid (Below w.heap.size w w1) := (new_below _ _).trans (hb1.mono (by simp))
    clear hb1 hd
    go_wp2_with fail
    go_ret
    exact ⟨rfl, HB1.out⟩


set_option maxRecDepth 100000 in
set_option maxHeartbeats 1000000 in
theorem refStep_bad (R : Rl) (t wm : Int) (h0 : fE R t wm ≠ 0) (w : World) (hL : Lies R w.heap.size w) :
    Calls Try.prog 15 #[.agg #[.slice R.a R.len R.cap, .int .i64 R.kp], .int .i64 t, .int .i64 wm] w fun e w' => e = .returned (.tuple #[.int .i64 0, .int .i64 (fE R t wm)]) ∧ Below w.heap.size w w' := by
  have HL : Hid (Lies R w.heap.size w) := hL
  clear hL
  have hne : (fE R t wm == 0) = false := by simpa using h0
  have hne2 : (fE R t wm != 0) = true := by simpa using h0
  clear h0
  go_enter Try.func15, Try.ntmps15
  go_wp2_with fail
  refine (refMay_any R t wm _ (HL.out.at (new_below _ _))).mono ?_
  rintro e w1 ⟨rfl, hb1⟩
  have HB1 : Hid (Below w.heap.size w w1) := (new_below _ _).trans (hb1.mono (by simp))
  clear hb1
  go_wp2_with fail
  go_ret2
  exact ⟨rfl, HB1.out⟩
set_option maxRecDepth 100000 in
set_option maxHeartbeats 1000000 in
theorem refStep_ok (R : Rl) (t wm : Int) (h0 : fE R t wm = 0) (K : Nat) (hK : IsStep R t wm K) (w : World) (hL : Lies R w.heap.size w) :
    Calls Try.prog 15 #[.agg #[.slice R.a R.len R.cap, .int .i64 R.kp], .int .i64 t, .int .i64 wm] w fun e w' => e = .returned (.tuple #[.int .i64 K, .int .i64 0]) ∧ Below w.heap.size w w' := by
  have HL : Hid (Lies R w.heap.size w) := hL
  have HK : Hid (IsStep R t wm K) := hK
  have HF : Hid (RightP R ∧ isT t = true ∧ isT wm = true) := fE_ok h0
  have H0 : Hid (fE R t wm = 0) := h0
  obtain ⟨b, off, ha⟩ := row_b HF.out.1 hL
  have HA : Hid (R.a = some ⟨b, off, none⟩) := ha
  have hl4 := HF.out.1.2.1
  have hl1 := HF.out.1.1
  have hwl : IntKind.i64.wrap ((R.len : Int) - 1) = ((R.len - 1 : Nat) : Int) := by rw [IntKind.wrap_i64]; omega
  clear hL hK h0 ha
  go_enter Try.func15, Try.ntmps15
  go_wp2_with fail
  refine (refMay_any R t wm _ (HL.out.at (new_below _ _))).mono ?_
  rw [H0.out]
  rintro e w1 ⟨rfl, hb1⟩
  have HB1 : Hid (Below w.heap.size w w1) := (new_below _ _).trans (hb1.mono (by simp))
  have HX1 : Hid (RBox R w.heap.size w1) := (RBox.new R w _).below hb1
  obtain ⟨_, c0, c1⟩ := HX1.out
  clear hb1
  go_wp2_with fail
  go_loopw [9] (fun i wr => ∃ k : Nat, k < R.len ∧ i = .int .i64 k ∧ (∀ j, k < j → j < R.len → ¬ cnd R t wm j) ∧ RBox R w.heap.size wr ∧ Below w.heap.size w wr) (fun i _ => (intOf i).toNat)
  case atStart =>
    exact ⟨R.len - 1, by omega, rfl, fun j h1 h2 => by omega, HX1.out, HB1.out⟩
  case round =>
    clear c0 c1
    obtain ⟨k, hk, rfl, hno, hbx, hbel⟩ := hrel
    have HB : Hid (Below w.heap.size w wr) := hbel
    obtain ⟨hx0, c0, c1⟩ := hbx
    have HX : Hid (RBox R w.heap.size wr) := ⟨hx0, c0, c1⟩
    have HLr : Hid (Lies R wr.heap.size wr) := HL.out.at HB.out
    have HNO : Hid (∀ j, k < j → j < R.len → ¬ cnd R t wm j) := hno
    clear hno hbel
    rcases Nat.eq_zero_or_pos k with hk0 | hk0
    · have HE : Hid (K = 0) := HK.out.uniq (show IsStep R t wm 0 from ⟨by omega, .inl rfl, fun j h1 h2 => HNO.out j (by omega) h2⟩)
      have i3 : (k : Int) ≤ 0 := by omega
      clear hk0
      go_wp2_with fail
      go_ret2
      exact ⟨by rw [HE.out]; rfl, HB.out⟩
    · rw [HA.out] at c0
      obtain ⟨dz, da⟩ := row_at HA.out HLr.out (k := k) hk
      have i1 : (k : Int) < (R.len : Int) := by omega
      have i3 : (0 : Int) < (k : Int) := by omega
      have FV : Hid (floorV t (R.sz k) = .tuple #[.int .i64 (t - t % R.sz k), .int .i64 0]) := floorV_ok HF.out.2.1 (sz_ok HF.out.1 hk)
      have hs := (isS_iff _).1 (sz_ok HF.out.1 hk)
      have hag := (isT_iff _).1 (ag_ok HF.out.1 hk)
      have ht := (isT_iff _).1 HF.out.2.1
      have hmd := mod_bd t (R.sz k) ht.1 hs.1
      have hw1 : IntKind.i64.wrap (t - t % R.sz k + R.sz k) = t - t % R.sz k + R.sz k := by rw [IntKind.wrap_i64]; omega
      have hw2 : IntKind.i64.wrap (t - t % R.sz k + R.sz k + R.ag k) = t - t % R.sz k + R.sz k + R.ag k := by rw [IntKind.wrap_i64]; omega
      have HCN : Hid (cnd R t wm k ↔ t - t % R.sz k + R.sz k + R.ag k ≤ wm) := by unfold Hid cnd endF; omega
      clear hs hag ht hmd
      generalize t - t % R.sz k = fl at *
      by_cases hcn : fl + R.sz k + R.ag k ≤ wm
      · have HE : Hid (K = k) := HK.out.uniq (show IsStep R t wm k from ⟨hk, .inr (HCN.out.2 hcn), HNO.out⟩)
        clear HCN
        go_wp2_with fail
        refine (refFloor_any t (R.sz k) _).mono ?_
        rw [FV.out]
        rintro e w' ⟨rfl, hw'⟩
        subst w'
        go_wp2_with fail
        go_region_held3 (fun w' => w'.cell? ⟨w.heap.size, 0, none⟩ = some (.slice (some ⟨b, off, none⟩) R.len R.cap) ∧ w'.cell? ⟨w.heap.size, 1, none⟩ = some (.int .i64 R.kp) ∧ w.heap.size < w'.heap.size ∧ w'.cell? ⟨b, off + k * 2, none⟩ = some (.int .i64 (R.sz k)) ∧ w'.cell? ⟨b, off + k * 2 + 1, none⟩ = some (.int .i64 (R.ag k)) ∧ Below w.heap.size w w') (first | exact ⟨c0, c1, hx0, dz, da, HB.out.drew⟩ | assumption) (fail)
        rename_i HZ
        clear c0 c1 dz da
        go_wp2_with fail
        go_ret2
        exact ⟨by rw [HE.out]; rfl, HZ.2.2.2.2.2⟩
      · have HCN2 : Hid (¬ cnd R t wm k) := fun h => hcn (HCN.out.1 h)
        clear HCN
        go_wp2_with fail
        refine (refFloor_any t (R.sz k) _).mono ?_
        rw [FV.out]
        rintro e w' ⟨rfl, hw'⟩
        subst w'
        go_wp2_with fail
        go_region_held3 (fun w' => w'.cell? ⟨w.heap.size, 0, none⟩ = some (.slice (some ⟨b, off, none⟩) R.len R.cap) ∧ w'.cell? ⟨w.heap.size, 1, none⟩ = some (.int .i64 R.kp) ∧ w.heap.size < w'.heap.size ∧ w'.cell? ⟨b, off + k * 2, none⟩ = some (.int .i64 (R.sz k)) ∧ w'.cell? ⟨b, off + k * 2 + 1, none⟩ = some (.int .i64 (R.ag k)) ∧ Below w.heap.size w w') (first | exact ⟨c0, c1, hx0, dz, da, HB.out.drew⟩ | assumption) (fail)
        rename_i HZ
        clear c0 c1 dz da
        have hwk : IntKind.i64.wrap ((k : Int) - 1) = ((k - 1 : Nat) : Int) := by rw [IntKind.wrap_i64]; omega
        go_wp2_with fail
        go_roundw
        case rel =>
          refine ⟨k - 1, by omega, rfl, fun j h1 h2 => ?_, ⟨HZ.2.2.1, by rw [HA.out]; exact HZ.1, HZ.2.1⟩, HZ.2.2.2.2.2⟩
          rcases Nat.lt_or_ge k j with h | h
          · exact HNO.out j h h2
          · have : j = k := by omega
            subst this; exact HCN2.out
        case measure => simp [intOf]; omega
theorem refStep_any (R : Rl) (t wm : Int) (K : Nat) (hK : fE R t wm = 0 → IsStep R t wm K) (w : World) (hL : Lies R w.heap.size w) :
    Calls Try.prog 15 #[.agg #[.slice R.a R.len R.cap, .int .i64 R.kp], .int .i64 t, .int .i64 wm] w fun e w' => e = .returned (.tuple #[.int .i64 (stA R t wm K), .int .i64 (fE R t wm)]) ∧ Below w.heap.size w w' := by
  unfold stA
  by_cases h0 : fE R t wm = 0
  · rw [if_pos h0, h0]; exact refStep_ok R t wm h0 K (hK h0) w hL
  · rw [if_neg h0]; exact refStep_bad R t wm h0 w hL
end Go.Proofs.Ytfgnojmpnkjdmaa
