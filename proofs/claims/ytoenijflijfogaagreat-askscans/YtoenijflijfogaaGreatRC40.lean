/- H2 H3 C3r K12 C5r, joined. -/
import Derived.Test.YtoenijflijfogaaGreatRC14
import Derived.Test.YtoenijflijfogaaGreatRC15
import Derived.Test.YtoenijflijfogaaGreatRC16
import Derived.Test.YtoenijflijfogaaGreatRC39
/- The contracts of the reference's May, Step, Bucket, Expired and End. -/
namespace Go.Proofs.YtoenijflijfogaaGreat
open Go.RowKit

set_option maxRecDepth 100000 in
set_option maxHeartbeats 1000000 in
theorem refMay_any (R : Rl) (t wm : Int) (w : World) (hL : Lies R w.heap.size w) :
    Calls Tryz.prog 111 #[.agg #[.slice R.a R.len R.cap, .int .i64 R.kp], .int .i64 t, .int .i64 wm] w fun e w' => e = .returned (.int .i64 (fE R t wm)) ∧ Below w.heap.size w w' := by
  have HL : Hid (Lies R w.heap.size w) := hL
  clear hL
  unfold fE
  by_cases hR : RightP R
  · rw [if_pos hR]
    have hd : decide (RightP R) = true := by simpa using hR
    clear hR
    cases ht : isT t
    · go_enter Tryz.func111, Tryz.ntmps111
      go_wp2_with fail
      refine (refRight_anyG R _ (HL.out.at (new_below _ _))).mono ?_
      rw [hd]
      rintro e w1 ⟨rfl, hb1⟩
      have HB1 : Hid (Below w.heap.size w w1) := (new_below _ _).trans (hb1.mono (by simp))
      clear hb1 hd
      go_wp2_with fail
      refine (refTime_any t _).mono ?_
      rw [ht]
      rintro e w' ⟨rfl, rfl⟩
      clear ht
      go_wp2_with fail
      go_ret
      exact ⟨rfl, HB1.out⟩
    · cases hw : isT wm
      · go_enter Tryz.func111, Tryz.ntmps111
        go_wp2_with fail
        refine (refRight_anyG R _ (HL.out.at (new_below _ _))).mono ?_
        rw [hd]
        rintro e w1 ⟨rfl, hb1⟩
        have HB1 : Hid (Below w.heap.size w w1) := (new_below _ _).trans (hb1.mono (by simp))
        clear hb1 hd
        go_wp2_with fail
        refine (refTime_any t _).mono ?_
        rw [ht]
        rintro e w' ⟨rfl, rfl⟩
        clear ht
        go_wp2_with fail
        refine (refTime_any wm _).mono ?_
        rw [hw]
        rintro e w' ⟨rfl, rfl⟩
        clear hw
        go_wp2_with fail
        go_ret
        exact ⟨rfl, HB1.out⟩
      · go_enter Tryz.func111, Tryz.ntmps111
        go_wp2_with fail
        refine (refRight_anyG R _ (HL.out.at (new_below _ _))).mono ?_
        rw [hd]
        rintro e w1 ⟨rfl, hb1⟩
        have HB1 : Hid (Below w.heap.size w w1) := (new_below _ _).trans (hb1.mono (by simp))
        clear hb1 hd
        go_wp2_with fail
        refine (refTime_any t _).mono ?_
        rw [ht]
        rintro e w' ⟨rfl, rfl⟩
        clear ht
        go_wp2_with fail
        refine (refTime_any wm _).mono ?_
        rw [hw]
        rintro e w' ⟨rfl, rfl⟩
        clear hw
        go_wp2_with fail
        go_ret
        exact ⟨rfl, HB1.out⟩
  · rw [if_neg hR]
    have hd : decide (RightP R) = false := by simpa using hR
    clear hR
    go_enter Tryz.func111, Tryz.ntmps111
    go_wp2_with fail
    refine (refRight_anyG R _ (HL.out.at (new_below _ _))).mono ?_
    rw [hd]
    rintro e w1 ⟨rfl, hb1⟩
    have HB1 : Hid (Below w.heap.size w w1) := (new_below _ _).trans (hb1.mono (by simp))
    clear hb1 hd
    go_wp2_with fail
    go_ret
    exact ⟨rfl, HB1.out⟩


set_option maxRecDepth 100000 in
set_option maxHeartbeats 1000000 in
theorem refStep_ok (R : Rl) (t wm : Int) (h0 : fE R t wm = 0) (K : Nat) (hK : IsStep R t wm K) (w : World) (hL : Lies R w.heap.size w) :
    Calls Tryz.prog 89 #[.agg #[.slice R.a R.len R.cap, .int .i64 R.kp], .int .i64 t, .int .i64 wm] w fun e w' => e = .returned (.tuple #[.int .i64 K, .int .i64 0]) ∧ Below w.heap.size w w' := by
  have HL : Hid (Lies R w.heap.size w) := hL
  have HK : Hid (IsStep R t wm K) := hK
  have HF : Hid (RightP R ∧ isT t = true ∧ isT wm = true) := fE_ok h0
  have H0 : Hid (fE R t wm = 0) := h0
  obtain ⟨b, off, ha⟩ := row_b HF.out.1 hL
  have HA : Hid (R.a = some ⟨b, off, none⟩) := ha
  have hl4 := HF.out.1.2.1
  have hl1 := HF.out.1.1
  have hwl : IntKind.i64.wrap ((R.len : Int) - 1) = ((R.len - 1 : Nat) : Int) := by rw [IntKind.wrap_i64]; omega
  clear hL hK h0 ha
  go_enter Tryz.func89, Tryz.ntmps89
  go_wp2_with fail
  refine (refMay_any R t wm _ (HL.out.at (new_below _ _))).mono ?_
  rw [H0.out]
  rintro e w1 ⟨rfl, hb1⟩
  have HB1 : Hid (Below w.heap.size w w1) := (new_below _ _).trans (hb1.mono (by simp))
  have HX1 : Hid (RBox R w.heap.size w1) := (RBox.new R w _).below hb1
  obtain ⟨_, c0, c1⟩ := HX1.out
  clear hb1
  go_wp2_with fail
  go_loopw [9] (fun i wr => ∃ k : Nat, k < R.len ∧ i = .int .i64 k ∧ (∀ j, k < j → j < R.len → ¬ cnd R t wm j) ∧ RBox R w.heap.size wr ∧ Below w.heap.size w wr) (fun i _ => (intOf i).toNat)
  case atStart =>
    exact ⟨R.len - 1, by omega, rfl, fun j h1 h2 => by omega, HX1.out, HB1.out⟩
  case round =>
    clear c0 c1
    obtain ⟨k, hk, rfl, hno, hbx, hbel⟩ := hrel
    have HB : Hid (Below w.heap.size w wr) := hbel
    obtain ⟨hx0, c0, c1⟩ := hbx
    have HX : Hid (RBox R w.heap.size wr) := ⟨hx0, c0, c1⟩
    have HLr : Hid (Lies R wr.heap.size wr) := HL.out.at HB.out
    have HNO : Hid (∀ j, k < j → j < R.len → ¬ cnd R t wm j) := hno
    clear hno hbel
    rcases Nat.eq_zero_or_pos k with hk0 | hk0
    · have HE : Hid (K = 0) := HK.out.uniq (show IsStep R t wm 0 from ⟨by omega, .inl rfl, fun j h1 h2 => HNO.out j (by omega) h2⟩)
      have i3 : (k : Int) ≤ 0 := by omega
      clear hk0
      go_wp2_with fail
      go_ret2
      exact ⟨by rw [HE.out]; rfl, HB.out⟩
    · rw [HA.out] at c0
      obtain ⟨dz, da⟩ := row_at HA.out HLr.out (k := k) hk
      have i1 : (k : Int) < (R.len : Int) := by omega
      have i3 : (0 : Int) < (k : Int) := by omega
      have FV : Hid (floorV t (R.sz k) = .tuple #[.int .i64 (t - t % R.sz k), .int .i64 0]) := floorV_ok HF.out.2.1 (sz_ok HF.out.1 hk)
      have hs := (isS_iff _).1 (sz_ok HF.out.1 hk)
      have hag := (isT_iff _).1 (ag_ok HF.out.1 hk)
      have ht := (isT_iff _).1 HF.out.2.1
      have hmd := mod_bd t (R.sz k) ht.1 hs.1
      have hw1 : IntKind.i64.wrap (t - t % R.sz k + R.sz k) = t - t % R.sz k + R.sz k := by rw [IntKind.wrap_i64]; omega
      have hw2 : IntKind.i64.wrap (t - t % R.sz k + R.sz k + R.ag k) = t - t % R.sz k + R.sz k + R.ag k := by rw [IntKind.wrap_i64]; omega
      have HCN : Hid (cnd R t wm k ↔ t - t % R.sz k + R.sz k + R.ag k ≤ wm) := by unfold Hid cnd endF; omega
      clear hs hag ht hmd
      generalize t - t % R.sz k = fl at *
      by_cases hcn : fl + R.sz k + R.ag k ≤ wm
      · have HE : Hid (K = k) := HK.out.uniq (show IsStep R t wm k from ⟨hk, .inr (HCN.out.2 hcn), HNO.out⟩)
        clear HCN
        go_wp2_with fail
        refine (refFloor_any t (R.sz k) _).mono ?_
        rw [FV.out]
        rintro e w' ⟨rfl, hw'⟩
        subst w'
        go_wp2_with fail
        go_region_held3 (fun w' => w'.cell? ⟨w.heap.size, 0, none⟩ = some (.slice (some ⟨b, off, none⟩) R.len R.cap) ∧ w'.cell? ⟨w.heap.size, 1, none⟩ = some (.int .i64 R.kp) ∧ w.heap.size < w'.heap.size ∧ w'.cell? ⟨b, off + k * 2, none⟩ = some (.int .i64 (R.sz k)) ∧ w'.cell? ⟨b, off + k * 2 + 1, none⟩ = some (.int .i64 (R.ag k)) ∧ Below w.heap.size w w') (first | exact ⟨c0, c1, hx0, dz, da, HB.out.drew⟩ | assumption) (fail)
        rename_i HZ
        clear c0 c1 dz da
        go_wp2_with fail
        go_ret2
        exact ⟨by rw [HE.out]; rfl, HZ.2.2.2.2.2⟩
      · have HCN2 : Hid (¬ cnd R t wm k) := fun h => hcn (HCN.out.1 h)
        clear HCN
        go_wp2_with fail
        refine (refFloor_any t (R.sz k) _).mono ?_
        rw [FV.out]
        rintro e w' ⟨rfl, hw'⟩
        subst w'
        go_wp2_with fail
        go_region_held3 (fun w' => w'.cell? ⟨w.heap.size, 0, none⟩ = some (.slice (some ⟨b, off, none⟩) R.len R.cap) ∧ w'.cell? ⟨w.heap.size, 1, none⟩ = some (.int .i64 R.kp) ∧ w.heap.size < w'.heap.size ∧ w'.cell? ⟨b, off + k * 2, none⟩ = some (.int .i64 (R.sz k)) ∧ w'.cell? ⟨b, off + k * 2 + 1, none⟩ = some (.int .i64 (R.ag k)) ∧ Below w.heap.size w w') (first | exact ⟨c0, c1, hx0, dz, da, HB.out.drew⟩ | assumption) (fail)
        rename_i HZ
        clear c0 c1 dz da
        have hwk : IntKind.i64.wrap ((k : Int) - 1) = ((k - 1 : Nat) : Int) := by rw [IntKind.wrap_i64]; omega
        go_wp2_with fail
        go_roundw
        case rel =>
          refine ⟨k - 1, by omega, rfl, fun j h1 h2 => ?_, ⟨HZ.2.2.1, by rw [HA.out]; exact HZ.1, HZ.2.1⟩, HZ.2.2.2.2.2⟩
          rcases Nat.lt_or_ge k j with h | h
          · exact HNO.out j h h2
          · have : j = k := by omega
            subst this; exact HCN2.out
        case measure => simp [intOf]; omega
end Go.Proofs.YtoenijflijfogaaGreat

/- The contracts of the reference's Bucket, Expired and End. -/
namespace Go.Proofs.YtoenijflijfogaaGreat
open Go.RowKit

set_option maxRecDepth 100000 in
set_option maxHeartbeats 1000000 in
theorem refExpired_any (R : Rl) (t wm : Int) (w : World) (hL : Lies R w.heap.size w) :
    Calls Tryz.prog 88 #[.agg #[.slice R.a R.len R.cap, .int .i64 R.kp], .int .i64 t, .int .i64 wm] w fun e w' => e = .returned (.tuple #[.bool (exA R t wm), .int .i64 (fE R t wm)]) ∧ Below w.heap.size w w' := by
  unfold exA
  by_cases h0 : fE R t wm = 0
  · rw [if_pos h0, h0]
    have HF : Hid (RightP R ∧ isT t = true ∧ isT wm = true) := fE_ok h0
    have H0 : Hid (fE R t wm = 0) := h0
    obtain ⟨m, hm⟩ : ∃ m, R.len = m + 1 := ⟨R.len - 1, by have := HF.out.1.1; omega⟩
    have em : R.len - 1 = m := by omega
    rw [em]
    have hle := HF.out.1.2.1
    have hkp1 := HF.out.1.2.2.2.2.1
    have hkp2 := HF.out.1.2.2.2.2.2
    have hag := (isT_iff _).1 (ag_ok HF.out.1 (i := R.len - 1) (by omega))
    have hs := (isS_iff _).1 (sz_ok HF.out.1 (i := m) (by omega))
    have ht := (isT_iff _).1 HF.out.2.1
    have hmd := mod_bd t (R.sz m) ht.1 hs.1
    have hwl : IntKind.i64.wrap ((R.len : Int) - 1) = (m : Int) := by rw [IntKind.wrap_i64]; omega
    have hw1 : IntKind.i64.wrap (t - t % R.sz m + R.sz m) = t - t % R.sz m + R.sz m := by rw [IntKind.wrap_i64]; omega
    have hw2 : IntKind.i64.wrap (t - t % R.sz m + R.sz m + R.kp) = t - t % R.sz m + R.sz m + R.kp := by rw [IntKind.wrap_i64]; omega
    have i0 : (0 : Int) ≤ (m : Int) := by omega
    have i1 : (m : Int) < (R.len : Int) := by omega
    have HM : Hid (m < R.len) := by unfold Hid; omega
    have FV : Hid (floorV t (R.sz m) = .tuple #[.int .i64 (t - t % R.sz m), .int .i64 0]) := floorV_ok HF.out.2.1 (sz_ok HF.out.1 HM.out)
    have HD : decide (endF t (R.sz m) ≤ wm - R.kp) = decide (t - t % R.sz m + R.sz m + R.kp ≤ wm) := by
      apply decide_eq_decide.2; unfold endF; omega
    rw [HD]
    obtain ⟨b, off, ha⟩ := row_b HF.out.1 hL
    have HA : Hid (R.a = some ⟨b, off, none⟩) := ha
    clear hkp1 hkp2 hag hm em hle hs ht hmd h0 HD ha
    generalize t - t % R.sz m = fl at *
    generalize hr : decide (fl + R.sz m + R.kp ≤ wm) = r
    cases r
    · skip
      have HL : Hid (Lies R w.heap.size w) := hL
      have HB0 : Hid (Below w.heap.size w (w.alloc (.cells #[.slice R.a R.len R.cap, .int .i64 R.kp] 24))) := new_below _ _
      have HX0 : Hid (RBox R w.heap.size (w.alloc (.cells #[.slice R.a R.len R.cap, .int .i64 R.kp] 24))) := RBox.new R w _
      have HL0 : Hid (Lies R (w.alloc (.cells #[.slice R.a R.len R.cap, .int .i64 R.kp] 24)).heap.size (w.alloc (.cells #[.slice R.a R.len R.cap, .int .i64 R.kp] 24))) := HL.out.at HB0.out
      clear hL
      go_enter Tryz.func88, Tryz.ntmps88
      go_wp2_with fail
      refine (refMay_any R t wm _ HL0.out).mono ?_
      rw [H0.out]
      rintro e w1 ⟨rfl, hb1⟩
      have HB1 : Hid (Below w.heap.size w w1) := HB0.out.trans (hb1.mono HB0.out.size)
      have HX1 : Hid (RBox R w.heap.size w1) := HX0.out.below hb1
      have HL1 : Hid (Lies R w1.heap.size w1) := HL.out.at HB1.out
      clear hb1
      (try clear c0 c1)
      obtain ⟨_, c0, c1⟩ := HX1.out
      (try rw [HA.out] at c0)
      obtain ⟨dzm, dam⟩ := row_at HA.out HL1.out (k := m) HM.out
      go_wp2_with fail
      refine (refFloor_any t (R.sz m) _).mono ?_
      rw [FV.out]
      rintro e w' ⟨rfl, hw'⟩
      subst w'
      go_wp2_with fail
      go_ret2
      exact ⟨rfl, HB1.out⟩
    · skip
      have HL : Hid (Lies R w.heap.size w) := hL
      have HB0 : Hid (Below w.heap.size w (w.alloc (.cells #[.slice R.a R.len R.cap, .int .i64 R.kp] 24))) := new_below _ _
      have HX0 : Hid (RBox R w.heap.size (w.alloc (.cells #[.slice R.a R.len R.cap, .int .i64 R.kp] 24))) := RBox.new R w _
      have HL0 : Hid (Lies R (w.alloc (.cells #[.slice R.a R.len R.cap, .int .i64 R.kp] 24)).heap.size (w.alloc (.cells #[.slice R.a R.len R.cap, .int .i64 R.kp] 24))) := HL.out.at HB0.out
      clear hL
      go_enter Tryz.func88, Tryz.ntmps88
      go_wp2_with fail
      refine (refMay_any R t wm _ HL0.out).mono ?_
      rw [H0.out]
      rintro e w1 ⟨rfl, hb1⟩
      have HB1 : Hid (Below w.heap.size w w1) := HB0.out.trans (hb1.mono HB0.out.size)
      have HX1 : Hid (RBox R w.heap.size w1) := HX0.out.below hb1
      have HL1 : Hid (Lies R w1.heap.size w1) := HL.out.at HB1.out
      clear hb1
      (try clear c0 c1)
      obtain ⟨_, c0, c1⟩ := HX1.out
      (try rw [HA.out] at c0)
      obtain ⟨dzm, dam⟩ := row_at HA.out HL1.out (k := m) HM.out
      go_wp2_with fail
      refine (refFloor_any t (R.sz m) _).mono ?_
      rw [FV.out]
      rintro e w' ⟨rfl, hw'⟩
      subst w'
      go_wp2_with fail
      go_ret2
      exact ⟨rfl, HB1.out⟩
  · rw [if_neg h0]
    have hne : (fE R t wm == 0) = false := by simpa using h0
    have hne2 : (fE R t wm != 0) = true := by simpa using h0
    clear h0
    have HL : Hid (Lies R w.heap.size w) := hL
    have HB0 : Hid (Below w.heap.size w (w.alloc (.cells #[.slice R.a R.len R.cap, .int .i64 R.kp] 24))) := new_below _ _
    have HX0 : Hid (RBox R w.heap.size (w.alloc (.cells #[.slice R.a R.len R.cap, .int .i64 R.kp] 24))) := RBox.new R w _
    have HL0 : Hid (Lies R (w.alloc (.cells #[.slice R.a R.len R.cap, .int .i64 R.kp] 24)).heap.size (w.alloc (.cells #[.slice R.a R.len R.cap, .int .i64 R.kp] 24))) := HL.out.at HB0.out
    clear hL
    go_enter Tryz.func88, Tryz.ntmps88
    go_wp2_with fail
    refine (refMay_any R t wm _ HL0.out).mono ?_
    rintro e w1 ⟨rfl, hb1⟩
    have HB1 : Hid (Below w.heap.size w w1) := HB0.out.trans (hb1.mono HB0.out.size)
    have HX1 : Hid (RBox R w.heap.size w1) := HX0.out.below hb1
    have HL1 : Hid (Lies R w1.heap.size w1) := HL.out.at HB1.out
    clear hb1
    (try clear c0 c1)
    obtain ⟨_, c0, c1⟩ := HX1.out
    go_wp2_with fail
    go_ret2
    exact ⟨rfl, HB1.out⟩

end Go.Proofs.YtoenijflijfogaaGreat

/- The contracts of the reference's Text and ReadText. -/
namespace Go.Proofs.YtoenijflijfogaaGreat
open Go.RowKit

set_option maxRecDepth 100000 in
set_option maxHeartbeats 1000000 in
theorem refText_any (s : ByteArray) (hs : s.size ≤ 10000) (w : World) :
    Calls Tryz.prog 77 #[.string s] w fun e w' => ∃ v, e = .returned v ∧ w'.ownsRow w.heap.size 5 1 v (tx s.data.toList).length ((tx s.data.toList).map bc) ∧ Below w.heap.size w w' := by
  obtain ⟨i0, hi, hz0, hz1, hz2⟩ := info_parts info5
  have hsl : s.data.toList.length = s.size := Array.length_toList
  have HO0 : Hid (w.ownsRow w.heap.size 5 1 (.slice none 0 0) (txb (s.data.toList.take 0)).length ((txb (s.data.toList.take 0)).map bc)) := World.ownsRow_nil _ _ _ _
  have HB0 : Hid (Below w.heap.size w w) := Below.refl _ _
  go_enter Tryz.func77, Tryz.ntmps77
  go_wp2_with fail
  go_loopw [3, 4] (fun v i wr => ∃ k : Nat, k ≤ s.size ∧ i = .int .i64 (k : Int) ∧ wr.ownsRow w.heap.size 5 1 v (txb (s.data.toList.take k)).length ((txb (s.data.toList.take k)).map bc) ∧ Below w.heap.size w wr) (fun _ i _ => s.size - (intOf i).toNat)
  case atStart => exact ⟨0, by omega, rfl, HO0.out, HB0.out⟩
  case round =>
    obtain ⟨k, hk, rfl, hown, hbr⟩ := hrel
    have hlen := txb_len (s.data.toList.take k)
    have htk : (s.data.toList.take k).length ≤ k := List.length_take_le _ _
    have hsz := hbr.size
    by_cases hlt : k < s.size
    · have hsn := txb_snoc s.data.toList k (by omega)
      have hxe : s[k] = s.data.toList[k]'(by omega) := rfl
      rw [← hxe] at hsn
      have HSN : Hid _ := hsn
      have HHL : Hid (s.data.toList.length = s.size) := hsl
      clear hsn hxe hsl
      generalize hx : s[k] = x at *
      generalize s.data.toList.take k = L at *
      by_cases hx0 : x.toNat = 0
      · have HX : Hid (x.toNat = 0) := hx0
        have i5 : ((x.toNat : Int) == 0) = true := by simp [hx0]
        have i6 : bc x = .int .u8 0 := by unfold bc; rw [hx0]; rfl
        have HBC : Hid (bc x = .int .u8 0) := i6
        clear hx0 i6
        go_wp2_with (at_builtin; refine wpList_append_own _ rfl _ _ 58 rfl w.heap.size 5 i0 (.int .u8 0) 1 1 Tryz.underlying58 hi hz0 hz1 hz2 rfl (by decide) _ _ _ rfl (hown.alloc _) ⟨wr.heap.size, 0, none⟩ 1 1 [.int .u8 (x.toNat : Int)] rfl rfl news1 one1 (len_ok (by omega)).1 (len_ok (by omega)).2 (al_ok hsz) ?_)
        intro v' w1 hown' hgrow _
        have HO1 : Hid (w1.ownsRow w.heap.size 5 1 v' ((txb L).length + 1) ((txb L).map bc ++ [bc x])) := hown'
        have HB1 : Hid (Below w.heap.size w w1) := (hbr.alloc hbr.size _).grown hgrow (al_ok hsz) (own_block hown)
        have hown1 : w1.ownsRow w.heap.size 5 1 v' ((txb L).length + 1) ((txb L).map bc ++ [bc x]) := HO1.out
        have hsz1 := HB1.out.size
        clear hown hown' hgrow hbr hsz
        go_wp2_with (at_builtin; refine wpList_append_own _ rfl _ _ 58 rfl w.heap.size 5 i0 (.int .u8 0) 1 1 Tryz.underlying58 hi hz0 hz1 hz2 rfl (by decide) _ _ _ rfl (hown1.alloc _) ⟨w1.heap.size, 0, none⟩ 1 1 [.int .u8 255] rfl rfl news1 one1 (len_ok (by omega)).1 (len_ok (by omega)).2 (al_ok hsz1) ?_)
        intro v2 w2 hown2 hgrow2 _
        have HO2 : Hid (w2.ownsRow w.heap.size 5 1 v2 (txb (s.data.toList.take (k + 1))).length ((txb (s.data.toList.take (k + 1))).map bc)) := by
          rw [HSN.out, if_pos HX.out, List.map_append, List.length_append]
          have e : ((txb L).map bc ++ [x, 255].map bc) = (txb L).map bc ++ [bc x, .int .u8 255] := rfl
          have e2 : (txb L).length + [x, 255].length = (txb L).length + 1 + 1 := rfl
          rw [e, e2]
          exact hown2
        have HB2 : Hid (Below w.heap.size w w2) := (HB1.out.alloc HB1.out.size _).grown hgrow2 (al_ok hsz1) (own_block hown1)
        clear hown1 hown2 hgrow2 hsz1 HO1 HB1
        go_wp2_with fail
        go_roundw
        case rel => exact ⟨k + 1, by omega, by go_num, HO2.out, HB2.out⟩
        case measure => simp [intOf]; omega
      · have HX : Hid (¬ x.toNat = 0) := hx0
        have i5 : ((x.toNat : Int) == 0) = false := by simp; omega
        clear hx0
        go_wp2_with (at_builtin; refine wpList_append_own _ rfl _ _ 58 rfl w.heap.size 5 i0 (.int .u8 0) 1 1 Tryz.underlying58 hi hz0 hz1 hz2 rfl (by decide) _ _ _ rfl (hown.alloc _) ⟨wr.heap.size, 0, none⟩ 1 1 [.int .u8 (x.toNat : Int)] rfl rfl news1 one1 (len_ok (by omega)).1 (len_ok (by omega)).2 (al_ok hsz) ?_)
        intro v' w1 hown' hgrow _
        have HO2 : Hid (w1.ownsRow w.heap.size 5 1 v' (txb (s.data.toList.take (k + 1))).length ((txb (s.data.toList.take (k + 1))).map bc)) := by
          rw [HSN.out, if_neg HX.out, List.map_append, List.length_append]
          exact hown'
        have HB2 : Hid (Below w.heap.size w w1) := (hbr.alloc hbr.size _).grown hgrow (al_ok hsz) (own_block hown)
        clear hown hown' hgrow hbr hsz
        go_wp2_with fail
        go_roundw
        case rel => exact ⟨k + 1, by omega, by go_num, HO2.out, HB2.out⟩
        case measure => simp [intOf]; omega
    · have hke : k = s.size := by omega
      subst hke
      have HTK : Hid (s.data.toList.take s.size = s.data.toList) := List.take_of_length_le (by omega)
      clear hsl
      generalize s.data.toList.take s.size = L at *
      go_wp2_with (at_builtin; refine wpList_append_own _ rfl _ _ 58 rfl w.heap.size 5 i0 (.int .u8 0) 1 1 Tryz.underlying58 hi hz0 hz1 hz2 rfl (by decide) _ _ _ rfl (hown.alloc _) ⟨wr.heap.size, 0, none⟩ 2 2 [.int .u8 0, .int .u8 1] rfl rfl news2 one2 (len_ok (by omega)).1 (len_ok (by omega)).2 (al_ok hsz) ?_)
      intro v' w1 hown' hgrow _
      have HO2 : Hid (w1.ownsRow w.heap.size 5 1 v' (tx s.data.toList).length ((tx s.data.toList).map bc)) := by
        unfold tx
        rw [← HTK.out, List.map_append, List.length_append]
        exact hown'
      have HB2 : Hid (Below w.heap.size w w1) := (hbr.alloc hbr.size _).grown hgrow (al_ok hsz) (own_block hown)
      clear hown hown' hgrow hbr hsz
      go_wp2_with fail
      go_ret
      exact ⟨_, rfl, HO2.out, HB2.out⟩
set_option maxRecDepth 100000 in
set_option maxHeartbeats 1000000 in
theorem refReadText_some (b off cap : Nat) (l : List UInt8) (h0 : 0 < l.length) (hl : l.length ≤ 10000) (w : World) (hbw : b < w.heap.size) (hc : ∀ j (h : j < l.length), w.cell? ⟨b, off + j, none⟩ = some (bc l[j])) :
    Calls Tryz.prog 70 #[.slice (some ⟨b, off, none⟩) l.length cap] w fun e w' => e = .returned (.tuple #[.string ⟨(rtF l [] 0).1.toArray⟩, .int .i64 (rtF l [] 0).2.1, .int .i64 (rtF l [] 0).2.2]) ∧ Below w.heap.size w w' := by
  obtain ⟨i0, hi, hz0, hz1, hz2⟩ := info_parts info5
  go_enter Tryz.func70, Tryz.ntmps70
  go_wp2_with fail
  go_loopw [5, 6] (fun v i wr => ∃ (k : Nat) (acc : List UInt8), k ≤ l.length ∧ i = .int .i64 (k : Int) ∧ acc.length ≤ k ∧ rtF (l.drop k) acc k = rtF l [] 0 ∧ wr.ownsRow w.heap.size 5 1 v acc.length (acc.map bc) ∧ Below w.heap.size w wr) (fun _ i _ => l.length - (intOf i).toNat)
  case atStart => exact ⟨0, [], by omega, rfl, by simp, rfl, World.ownsRow_nil _ _ _ _, Below.refl _ _⟩
  case round =>
    obtain ⟨k, acc, hk, rfl, hacc, hF, hown, hbr⟩ := hrel
    have hsz := hbr.size
    by_cases hlt : k < l.length
    · have hcell : wr.cell? ⟨b, off + k, none⟩ = some (bc l[k]) := (hbr.cell (p := ⟨b, off + k, none⟩) hbw).trans (hc k hlt)
      have hki : (k : Int) < (l.length : Int) := by omega
      by_cases hl1 : k + 1 < l.length
      · have hcell1 : wr.cell? ⟨b, off + (k + 1), none⟩ = some (bc l[k + 1]) := (hbr.cell (p := ⟨b, off + (k + 1), none⟩) hbw).trans (hc (k + 1) hl1)
        rw [drop2 l k hl1, rtF_cons2] at hF
        have HD1 : Hid (l[k + 1] :: l.drop (k + 2) = l.drop (k + 1)) := (List.drop_eq_getElem_cons hl1).symm
        generalize l[k] = x at *
        generalize l[k + 1] = y at *
        unfold bc at hcell hcell1
        have hki1 : (k : Int) + 1 < (l.length : Int) := by omega
        clear hc
        by_cases hx0 : x.toNat = 0
        · rw [if_pos hx0] at hF
          have g0 : ((x.toNat : Int) == 0) = true := by simp [hx0]
          have g1 : ((x.toNat : Int) != 0) = false := by simp [hx0]
          have HX : Hid (bc x = .int .u8 0) := by unfold Hid bc; rw [hx0]; rfl
          clear hx0
          by_cases hy : y.toNat = 255
          · rw [if_pos hy] at hF
            have HF : Hid _ := hF
            have g2 : ((y.toNat : Int) != 255) = false := by simp [hy]
            have g3 : ((y.toNat : Int) == 1) = false := by simp [hy]
            clear hy hF
            go_wp2_with (at_builtin; refine wpList_append_own _ rfl _ _ 58 rfl w.heap.size 5 i0 (.int .u8 0) 1 1 Tryz.underlying58 hi hz0 hz1 hz2 rfl (by decide) _ _ _ rfl (hown.alloc _) ⟨wr.heap.size, 0, none⟩ 1 1 [.int .u8 0] rfl rfl news1 one1 (len_ok (by omega)).1 (len_ok (by omega)).2 (al_ok hsz) ?_)
            intro v' w1 hown' hgrow _
            have HO2 : Hid (w1.ownsRow w.heap.size 5 1 v' (acc ++ [x]).length ((acc ++ [x]).map bc)) := by
              rw [List.map_append, List.length_append]
              simp only [List.map_cons, List.map_nil]
              rw [HX.out]
              exact hown'
            have HB2 : Hid (Below w.heap.size w w1) := (hbr.alloc hbr.size _).grown hgrow (al_ok hsz) (own_block hown)
            clear hown hown' hgrow hbr hsz hcell hcell1
            go_wp2_with fail
            go_roundw
            case rel => exact ⟨k + 2, acc ++ [x], by omega, by go_num, by simp; omega, HF.out, HO2.out, HB2.out⟩
            case measure => simp [intOf]; omega
          · rw [if_neg hy] at hF
            have g2 : ((y.toNat : Int) != 255) = true := by simp; omega
            clear hy
            by_cases hy1 : y.toNat = 1
            · rw [if_pos hy1] at hF
              have HF : Hid _ := hF.symm
              have g3 : ((y.toNat : Int) == 1) = true := by simp [hy1]
              have hcv := reads_text (reads_own hown)
              have HB : Hid (Below w.heap.size w wr) := hbr
              clear hy1 hF hown hbr
              go_wp2_with fail
              go_ret3
              exact ⟨by rw [HF.out]; rfl, HB.out⟩
            · rw [if_neg hy1] at hF
              have HF : Hid _ := hF.symm
              have g3 : ((y.toNat : Int) == 1) = false := by simp; omega
              have HB : Hid (Below w.heap.size w wr) := hbr
              clear hy1 hF hown hbr
              go_wp2_with fail
              go_ret3
              exact ⟨by rw [HF.out]; rfl, HB.out⟩
        · rw [if_neg hx0, HD1.out] at hF
          have HF : Hid _ := hF
          have g0 : ((x.toNat : Int) == 0) = false := by simp; omega
          have g1 : ((x.toNat : Int) != 0) = true := by simp; omega
          clear hx0 hF
          go_wp2_with (at_builtin; refine wpList_append_own _ rfl _ _ 58 rfl w.heap.size 5 i0 (.int .u8 0) 1 1 Tryz.underlying58 hi hz0 hz1 hz2 rfl (by decide) _ _ _ rfl (hown.alloc _) ⟨wr.heap.size, 0, none⟩ 1 1 [.int .u8 (x.toNat : Int)] rfl rfl news1 one1 (len_ok (by omega)).1 (len_ok (by omega)).2 (al_ok hsz) ?_)
          intro v' w1 hown' hgrow _
          have HO2 : Hid (w1.ownsRow w.heap.size 5 1 v' (acc ++ [x]).length ((acc ++ [x]).map bc)) := by
            rw [List.map_append, List.length_append]
            exact hown'
          have HB2 : Hid (Below w.heap.size w w1) := (hbr.alloc hbr.size _).grown hgrow (al_ok hsz) (own_block hown)
          clear hown hown' hgrow hbr hsz hcell hcell1
          go_wp2_with fail
          go_roundw
          case rel => exact ⟨k + 1, acc ++ [x], by omega, by go_num, by simp; omega, HF.out, HO2.out, HB2.out⟩
          case measure => simp [intOf]; omega
      · have hl2 : k + 1 = l.length := by omega
        rw [drop1 l k hl2, rtF_one] at hF
        have HF : Hid _ := hF.symm
        have HDN : Hid (l.drop (k + 1) = []) := List.drop_eq_nil_of_le (by omega)
        generalize l[k] = x at *
        unfold bc at hcell
        clear hc hF
        have g5 : (l.length : Int) ≤ (k : Int) + 1 := by omega
        by_cases hx0 : x.toNat = 0
        · have g0 : ((x.toNat : Int) == 0) = true := by simp [hx0]
          have g1 : ((x.toNat : Int) != 0) = false := by simp [hx0]
          have HB : Hid (Below w.heap.size w wr) := hbr
          clear hx0 hown hbr hl2
          go_wp2_with fail
          go_ret3
          exact ⟨by rw [HF.out]; rfl, HB.out⟩
        · have g0 : ((x.toNat : Int) == 0) = false := by simp; omega
          have g1 : ((x.toNat : Int) != 0) = true := by simp; omega
          have HE : Hid (k + 1 = l.length) := hl2
          clear hx0 g5 hl2 hl1
          go_wp2_with (at_builtin; refine wpList_append_own _ rfl _ _ 58 rfl w.heap.size 5 i0 (.int .u8 0) 1 1 Tryz.underlying58 hi hz0 hz1 hz2 rfl (by decide) _ _ _ rfl (hown.alloc _) ⟨wr.heap.size, 0, none⟩ 1 1 [.int .u8 (x.toNat : Int)] rfl rfl news1 one1 (len_ok (by omega)).1 (len_ok (by omega)).2 (al_ok hsz) ?_)
          intro v' w1 hown' hgrow _
          have HO2 : Hid (w1.ownsRow w.heap.size 5 1 v' (acc ++ [x]).length ((acc ++ [x]).map bc)) := by
            rw [List.map_append, List.length_append]
            exact hown'
          have HB2 : Hid (Below w.heap.size w w1) := (hbr.alloc hbr.size _).grown hgrow (al_ok hsz) (own_block hown)
          clear hown hown' hgrow hbr hsz hcell
          go_wp2_with fail
          go_roundw
          case rel => exact ⟨k + 1, acc ++ [x], by omega, by go_num, by simp; omega, by rw [HDN.out, HF.out]; rfl, HO2.out, HB2.out⟩
          case measure => simp [intOf]; omega
    · have hke : k = l.length := by omega
      subst hke
      rw [List.drop_length] at hF
      have HF : Hid (rtF l [] 0 = ([], 0, 10)) := by unfold Hid; rw [← hF]; rfl
      have HB : Hid (Below w.heap.size w wr) := hbr
      clear hc hF hown hbr
      go_wp2_with fail
      go_ret3
      exact ⟨by rw [HF.out]; rfl, HB.out⟩
set_option maxRecDepth 100000 in
set_option maxHeartbeats 1000000 in
theorem refReadText_none (a : Option Addr) (cap : Nat) (w : World) :
    Calls Tryz.prog 70 #[.slice a 0 cap] w fun e w' => e = .returned (.tuple #[.string ⟨#[]⟩, .int .i64 0, .int .i64 10]) ∧ Below w.heap.size w w' := by
  go_enter Tryz.func70, Tryz.ntmps70
  go_wp2_with fail
  go_loop [6] (fun i => i = .int .i64 0) (fun _ => 0)
  case atStart => rfl
  case round =>
    obtain rfl := hrel
    go_wp2_with fail
    go_ret3
    exact ⟨rfl, Below.refl _ _⟩
theorem refReadText_any (v : Value) (l : List UInt8) (hl : l.length ≤ 10000) (w : World) (h : Reads w v l) :
    Calls Tryz.prog 70 #[v] w fun e w' => e = .returned (.tuple #[.string ⟨(rtF l [] 0).1.toArray⟩, .int .i64 (rtF l [] 0).2.1, .int .i64 (rtF l [] 0).2.2]) ∧ Below w.heap.size w w' := by
  rcases h with ⟨rfl, a, cap, rfl, _⟩ | ⟨b, off, cap, rfl, h2, h3, h4, h5, h6⟩
  · exact refReadText_none a cap w
  · exact refReadText_some b off cap l h2 hl w h5 h6
end Go.Proofs.YtoenijflijfogaaGreat

/- The contracts of the reference's Fits, Right, Group, Part and Less. -/
namespace Go.Proofs.YtoenijflijfogaaGreat
open Go.RowKit

set_option maxRecDepth 100000 in
set_option maxHeartbeats 1000000 in
theorem fits_anyK (v : Value) (L : List ByteArray) (w : World) (h : SReads w v L) :
    Calls Tryz.prog 27 #[v] w fun e w' => e = .returned (.bool (mayB L)) ∧ w' = w := by
  obtain ⟨a, cap, rfl, hl⟩ := h.form
  unfold maxLen at hl
  have HR : Hid (SReads w (.slice a L.length cap) L) := h
  clear h
  by_cases h4 : 4 < L.length
  · have HM : Hid (mayB L = false) := mayB_no (by omega)
    have i1 : (4 : Int) < (L.length : Int) := by omega
    clear h4
    go_enter Tryz.func27, Tryz.ntmps27
    go_wp2_with fail
    go_ret
    exact ⟨by rw [HM.out]; rfl, rfl⟩
  · have i1 : ¬ (4 : Int) < (L.length : Int) := by omega
    go_enter Tryz.func27, Tryz.ntmps27
    go_wp2_with fail
    go_loop [3] (fun i => ∃ k : Nat, k ≤ L.length ∧ i = .int .i64 k ∧ Hid (∀ s ∈ L.take k, s.size ≤ 16)) (fun i => L.length - (intOf i).toNat)
    case atStart => exact ⟨0, Nat.zero_le _, rfl, by intro s hs; simp at hs⟩
    case round =>
      obtain ⟨k, hk, rfl, HK⟩ := hrel
      by_cases hlt : k < L.length
      · obtain ⟨b, off, rfl, _, hcell⟩ := HR.out.at k hlt
        have hsz : L[k].size ≤ maxLen := HR.out.size _ (List.getElem_mem hlt)
        unfold maxLen at hsz
        by_cases h16 : 16 < L[k].size
        · have HM : Hid (mayB L = false) := mayB_no (by intro h; have := h.2 _ (List.getElem_mem hlt); omega)
          have i2 : (16 : Int) < (L[k].size : Int) := by omega
          go_wp2_with fail
          go_ret
          exact ⟨by rw [HM.out]; rfl, rfl⟩
        · have i2 : ¬ (16 : Int) < (L[k].size : Int) := by omega
          have HK1 : Hid (∀ s ∈ L.take (k + 1), s.size ≤ 16) := by
            intro s hs
            rw [List.take_succ_eq_append_getElem hlt] at hs
            rcases List.mem_append.1 hs with hs | hs
            · exact HK.out s hs
            · simp at hs; subst hs; omega
          go_wp2_with fail
          go_round
          case rel => exact ⟨k + 1, by omega, by go_num, HK1⟩
          case measure => simp [intOf]; omega
      · have HM : Hid (mayB L = true) := by
          refine mayB_iff.2 ⟨by omega, ?_⟩
          have := HK.out
          rwa [List.take_of_length_le (by omega)] at this
        go_wp2_with fail
        go_ret
        exact ⟨by rw [HM.out]; rfl, rfl⟩
set_option maxRecDepth 100000 in
set_option maxHeartbeats 1000000 in
theorem refRight_anyK (k : Ky) (w : World) (h : KLies k w) :
    Calls Tryz.prog 58 #[k.val] w fun e w' => e = .returned (.bool (rightBK k.L k.f k.g)) ∧ Below w.heap.size w w' := by
  obtain ⟨v, L, f, g⟩ := k
  obtain ⟨hr, f1, f2, g1, g2⟩ := h
  simp only at hr f1 f2 g1 g2
  obtain ⟨a, cap, rfl, hm⟩ := hr.form
  unfold Ky.val
  simp only
  have hr1 : SReads (w.alloc (.cells #[.slice a L.length cap, .int .i64 f, .int .i64 g] 70)) (.slice a L.length cap) L := hr.below ((Below.refl _ _).alloc (Nat.le_refl _) _)
  have HB : Hid (Below w.heap.size w (w.alloc (.cells #[.slice a L.length cap, .int .i64 f, .int .i64 g] 70))) := (Below.refl _ _).alloc (Nat.le_refl _) _
  have HR : Hid (rightBK L f g = (mayB L && decide (0 ≤ f ∧ f ≤ 1099511627776 ∧ 0 ≤ g ∧ g ≤ 3))) := rfl
  clear hr
  go_enter Tryz.func58, Tryz.ntmps58
  go_wp2_with fail
  refine (fits_anyK _ L _ hr1).mono ?_
  rintro e w1 ⟨rfl, hw⟩
  subst w1
  clear hr1
  cases hmb : mayB L with
  | false =>
    have HF : Hid (rightBK L f g = false) := by rw [HR.out, hmb]; rfl
    clear hmb
    go_wp2_with fail
    go_ret
    exact ⟨by rw [HF.out]; rfl, HB.out⟩
  | true =>
    by_cases hall : 0 ≤ f ∧ f ≤ 1099511627776 ∧ 0 ≤ g ∧ g ≤ 3
    · have HF : Hid (rightBK L f g = true) := by unfold Hid; rw [HR.out, hmb, decide_eq_true hall]; rfl
      obtain ⟨c1, c2, c3, c4⟩ := hall
      clear HR hmb
      go_wp2_with fail
      go_ret
      exact ⟨by rw [HF.out]; rfl, HB.out⟩
    · have HF : Hid (rightBK L f g = false) := by unfold Hid; rw [HR.out, hmb, decide_eq_false hall]; rfl
      clear HR hmb
      by_cases c1 : 0 ≤ f
      · by_cases c2 : f ≤ 1099511627776
        · by_cases c3 : 0 ≤ g
          · by_cases c4 : g ≤ 3
            · exfalso; exact hall ⟨c1, c2, c3, by omega⟩
            · have d4 : decide (g ≤ 3) = false := decide_eq_false c4
              clear hall
              go_wp2_with fail
              go_ret
              exact ⟨by rw [HF.out]; first | rfl | (exact ret_bool (by assumption)), HB.out⟩
          · have d3 : decide (0 ≤ g) = false := decide_eq_false c3
            clear hall
            go_wp2_with fail
            go_ret
            exact ⟨by rw [HF.out]; first | rfl | (exact ret_bool (by assumption)), HB.out⟩
        · have d2 : decide (f ≤ 1099511627776) = false := decide_eq_false c2
          clear hall
          go_wp2_with fail
          go_ret
          exact ⟨by rw [HF.out]; first | rfl | (exact ret_bool (by assumption)), HB.out⟩
      · have d1 : decide (0 ≤ f) = false := decide_eq_false c1
        clear hall
        go_wp2_with fail
        go_ret
        exact ⟨by rw [HF.out]; first | rfl | (exact ret_bool (by assumption)), HB.out⟩
set_option maxRecDepth 100000 in
set_option maxHeartbeats 1000000 in
theorem refGroup_some (b off cap : Nat) (L : List ByteArray) (hsL : ∀ s ∈ L, s.size ≤ maxLen) (hmy : mayB L = true) (hc0 : 0 < L.length) (hcap : L.length ≤ cap) (hcm : cap ≤ maxLen) (w : World) (hbw : b < w.heap.size) (hc : ∀ j (h : j < L.length), w.cell? ⟨b, off + j, none⟩ = some (.string L[j])) :
    Calls Tryz.prog 59 #[.slice (some ⟨b, off, none⟩) L.length cap] w fun e w' => ∃ v, e = .returned (.tuple #[v, .int .i64 0]) ∧ Own w' w.heap.size v (jn L) ∧ Below w.heap.size w w' := by
  have HC : Hid (∀ j (h : j < L.length), w.cell? ⟨b, off + j, none⟩ = some (.string L[j])) := hc
  obtain ⟨h4, h16⟩ := mayB_iff.1 hmy
  have HS : Hid (∀ s ∈ L, s.size ≤ 16) := h16
  have HSR : SReads w (.slice (some ⟨b, off, none⟩) L.length cap) L := .inr ⟨b, off, cap, rfl, hc0, hcap, hcm, hbw, hc, hsL⟩
  have HMY : Hid (mayB L = true) := hmy
  clear hc h16 hmy hsL hcm
  go_enter Tryz.func59, Tryz.ntmps59
  go_wp2_with fail
  refine (fits_anyK _ L _ HSR).mono ?_
  rw [HMY.out]
  rintro e w1 ⟨rfl, hw⟩
  subst w1
  clear HSR
  go_wp2_with fail
  go_loopw [4, 5] (fun x i wr => ∃ (k : Nat) (M : List UInt8), k ≤ L.length ∧ i = .int .i64 (k : Int) ∧ Hid (M = jb (L.take k)) ∧ Own wr w.heap.size x M ∧ Hid (Below w.heap.size w wr)) (fun _ i _ => L.length - (intOf i).toNat)
  case atStart => exact ⟨0, [], by omega, rfl, rfl, Own.nil _ _, Below.refl _ _⟩
  case round =>
    obtain ⟨k, M, hk, rfl, HM, HR, HB⟩ := hrel
    have hsz := HB.out.size
    have hml : M.length ≤ 140 := by
      have := jb_len (L.take k) fun s hs => HS.out s (List.mem_of_mem_take hs)
      rw [← HM.out] at this; simp at this; omega
    by_cases hlt : k < L.length
    · have hcell := (HB.out.cell (p := ⟨b, off + k, none⟩) hbw).trans (HC.out k hlt)
      have hsk := HS.out _ (List.getElem_mem hlt)
      obtain ⟨M1, HM1⟩ := hid_ex (M ++ [(1 : UInt8)])
      obtain ⟨M2, HM2⟩ := hid_ex (M1 ++ tx L[k].data.toList)
      have HE : Hid (M2 = jb (L.take (k + 1))) := by
        rw [HM2.out, HM1.out, HM.out, List.take_succ_eq_append_getElem hlt, jb_snoc, List.append_assoc]; rfl
      have hm1 : M1.length = M.length + 1 := by rw [HM1.out]; simp
      have htl : (tx L[k].data.toList).length ≤ 34 := by
        have := tx_len L[k].data.toList
        have h4 : L[k].data.toList.length = L[k].size := Array.length_toList
        omega
      generalize L[k] = s at *
      have hss : s.size ≤ 10000 := by omega
      go_wp2_with (at_builtin; refine wpList_app1 rfl _ _ rfl w.heap.size _ M 1 M1 HM1.out rfl rfl rfl HR (by omega) hsz ?_)
      intro v1 w1 HR1 hb1
      have HB1 : Hid (Below w.heap.size w w1) := HB.out.trans hb1.out
      have hsz1 := HB1.out.size
      have hcell1 := (hb1.out.cell (p := ⟨b, off + k, none⟩) hbw).trans hcell
      clear hb1 HR hcell HB hsz
      go_wp2_with fail
      refine (refText_any s hss _).mono ?_
      rintro e w2 ⟨vt, rfl, hot, hb2⟩
      have HB2 : Hid (Below w.heap.size w w2) := HB1.out.trans (hb2.mono hsz1)
      have HR2 : Own w2 w.heap.size v1 M1 := HR1.below hb2
      have hrt : Reads w2 vt (tx s.data.toList) := reads_own hot
      have hsz2 := HB2.out.size
      clear hb2 HR1 hot HB1 hsz1
      go_wp2_with (at_builtin; refine wpList_app rfl _ _ rfl w.heap.size _ _ M1 (tx s.data.toList) M2 HM2.out rfl rfl HR2 hrt (by omega) hsz2 ?_)
      intro v3 w3 HR3 hb3
      have HB3 : Hid (Below w.heap.size w w3) := HB2.out.trans hb3.out
      clear hb3 HR2 HB2 hsz2 hrt
      go_wp2_with fail
      go_roundw
      case rel => exact ⟨k + 1, M2, by omega, by go_num, HE, HR3, HB3⟩
      case measure => simp [intOf]; omega
    · obtain ⟨M1, HM1⟩ := hid_ex (M ++ [(0 : UInt8)])
      have HE : Hid (M1 = jn L) := by
        rw [HM1.out, HM.out, List.take_of_length_le (by omega)]; rfl
      go_wp2_with (at_builtin; refine wpList_app1 rfl _ _ rfl w.heap.size _ M 0 M1 HM1.out rfl rfl rfl HR (by omega) hsz ?_)
      intro v1 w1 HR1 hb1
      have HB1 : Hid (Below w.heap.size w w1) := HB.out.trans hb1.out
      clear hb1 HR HB
      go_wp2_with fail
      go_ret2
      exact ⟨_, rfl, by rw [← HE.out]; exact HR1, HB1.out⟩
set_option maxRecDepth 100000 in
set_option maxHeartbeats 1000000 in
theorem refGroup_none (a : Option Addr) (cap : Nat) (hn : a = none → cap = 0) (w : World) :
    Calls Tryz.prog 59 #[.slice a 0 cap] w fun e w' => ∃ v, e = .returned (.tuple #[v, .int .i64 0]) ∧ Own w' w.heap.size v (jn []) ∧ Below w.heap.size w w' := by
  go_enter Tryz.func59, Tryz.ntmps59
  go_wp2_with fail
  refine (fits_anyK _ [] _ (.inl ⟨rfl, a, cap, rfl, hn⟩)).mono ?_
  rw [show mayB [] = true by decide]
  rintro e w1 ⟨rfl, hw⟩
  subst w1
  go_wp2_with fail
  go_loop [4, 5] (fun x i => i = .int .i64 0 ∧ x = .slice none 0 0) (fun _ _ => 0)
  case atStart => exact ⟨rfl, rfl⟩
  case round =>
    obtain ⟨rfl, rfl⟩ := hrel
    go_wp2_with (at_builtin; refine wpList_app1 rfl _ _ rfl w.heap.size _ [] 0 (jn []) rfl rfl rfl rfl (Own.nil _ _) (by simp) (Nat.le_refl _) ?_)
    intro v1 w1 HR1 hb1
    go_wp2_with fail
    go_ret2
    exact ⟨_, rfl, HR1, hb1.out⟩
theorem refGroup_yes (v : Value) (L : List ByteArray) (hm : mayB L = true) (w : World) (h : SReads w v L) :
    Calls Tryz.prog 59 #[v] w fun e w' => ∃ v, e = .returned (.tuple #[v, .int .i64 0]) ∧ Own w' w.heap.size v (jn L) ∧ Below w.heap.size w w' := by
  rcases h with ⟨rfl, a, cap, rfl, hn⟩ | ⟨b, off, cap, rfl, h2, h3, h4, h5, h6, h7⟩
  · exact refGroup_none a cap hn w
  · exact refGroup_some b off cap L h7 hm h2 h3 h4 w h5 h6
set_option maxRecDepth 100000 in
set_option maxHeartbeats 1000000 in
theorem refPart_any (v : Value) (L : List ByteArray) (hL : L.length ≤ 1000) (m : Nat) (hm : m < 9223372036854775808) (w : World) (h : SReads w v L) :
    Calls Tryz.prog 39 #[v, .int .i64 (m : Int)] w fun e w' => ∃ v', e = .returned (.tuple #[v', .int .i64 0]) ∧ SOwn w' w.heap.size v' (pt L m) ∧ Below w.heap.size w w' := by
  obtain ⟨a, cap, rfl, _⟩ := h.form
  have HR : Hid (SReads w (.slice a L.length cap) L) := h
  clear h
  go_enter Tryz.func39, Tryz.ntmps39
  go_wp2_with fail
  go_loopw [1, 6, 7] (fun q x i wr => ∃ (k : Nat) (M : List ByteArray), k ≤ L.length ∧ i = .int .i64 (k : Int) ∧ q = .int .i64 ((m / 2 ^ k : Nat) : Int) ∧ Hid (M = pt (L.take k) m) ∧ SOwn wr w.heap.size x M ∧ Hid (Below w.heap.size w wr)) (fun _ _ i _ => L.length - (intOf i).toNat)
  case atStart => exact ⟨0, [], by omega, rfl, by simp, by rw [List.take_zero]; rfl, SOwn.nil _ _, Below.refl _ _⟩
  case round =>
    obtain ⟨k, M, hk, rfl, rfl, HM, HO, HB⟩ := hrel
    have hsz := HB.out.size
    by_cases hlt : k < L.length
    · have hq2 : m / 2 ^ (k + 1) = m / 2 ^ k / 2 := by rw [Nat.pow_succ, Nat.div_div_eq_div_mul]
      have hqb : m / 2 ^ k < 9223372036854775808 := Nat.lt_of_le_of_lt (Nat.div_le_self _ _) hm
      have HQ2 : Hid (m / 2 ^ (k + 1) = m / 2 ^ k / 2) := hq2
      clear hq2
      have HSN : Hid (pt (L.take (k + 1)) m = M ++ (if m / 2 ^ k % 2 = 1 then [L[k]] else [])) := by
        have e : (L.take k).length = k := by simp; omega
        rw [List.take_succ_eq_append_getElem hlt, pt_snoc, e, ← HM.out]; rfl
      rcases Nat.mod_two_eq_zero_or_one (m / 2 ^ k) with h2 | h2
      · have HE : Hid (M = pt (L.take (k + 1)) m) := by rw [HSN.out, if_neg (by omega), List.append_nil]; rfl
        have y0 : ((m / 2 ^ k : Nat) : Int) % 2 = 0 := by omega
        clear h2 HSN HM
        generalize m / 2 ^ k = q at *
        go_wp2_with fail
        go_roundw
        case rel => exact ⟨k + 1, M, by omega, by go_num, by rw [HQ2.out]; go_num, HE, HO, HB⟩
        case measure => simp [intOf]; omega
      · obtain ⟨M1, HM1⟩ := hid_ex (M ++ [L[k]])
        have HE : Hid (M1 = pt (L.take (k + 1)) m) := by rw [HSN.out, if_pos h2, HM1.out]; rfl
        obtain ⟨b, off, rfl, hbw, hc⟩ := HR.out.at k hlt
        have hcell := (HB.out.cell (p := ⟨b, off + k, none⟩) hbw).trans hc
        have hys : L[k].size ≤ maxLen := HR.out.size _ (List.getElem_mem hlt)
        have hml : M.length ≤ 1000 := by
          have := pt_len (L.take k) m
          rw [← HM.out] at this
          simp at this; omega
        have y0 : ((m / 2 ^ k : Nat) : Int) % 2 = 1 := by omega
        clear h2 HSN hc HM
        generalize m / 2 ^ k = q at *
        go_wp2_with (at_builtin; refine wpList_sapp1 rfl _ _ rfl w.heap.size _ M M1 HM1.out hys rfl rfl HO (by omega) hsz ?_)
        intro v' w1 HO1 hb1
        have HB1 : Hid (Below w.heap.size w w1) := HB.out.trans hb1.out
        clear hb1 HO hcell HB HM1
        go_wp2_with fail
        go_roundw
        case rel => exact ⟨k + 1, M1, by omega, by go_num, by rw [HQ2.out]; go_num, HE, HO1, HB1⟩
        case measure => simp [intOf]; omega
    · have HE : Hid (M = pt L m) := by rw [HM.out, List.take_of_length_le (by omega)]; rfl
      go_wp2_with fail
      go_ret2
      exact ⟨_, rfl, by rw [← HE.out]; exact HO, HB.out⟩
end Go.Proofs.YtoenijflijfogaaGreat

/- The contracts of the reference's Number and ReadNumber. -/
namespace Go.Proofs.YtoenijflijfogaaGreat
open Go.RowKit

theorem nb_get (v : Int) (k : Nat) (h : k < 8) : (nb v)[k]'(by rw [nb_len]; exact h) = UInt8.ofNat (byteOf (v + 9223372036854775808) k).toNat := by
  have e1 : k / 8 = 0 := by omega
  have e2 : k % 8 = k := by omega
  unfold nb eight bytesTo
  simp [e1, e2]
theorem nb_snoc (v : Int) (k : Nat) (h : k < 8) : (nb v).take (k + 1) = (nb v).take k ++ [UInt8.ofNat (byteOf (v + 9223372036854775808) k).toNat] := by
  rw [List.take_succ_eq_append_getElem (by rw [nb_len]; exact h), nb_get v k h]
theorem worth_eq (k : Nat) (h : k < 8) : (72057594037927936 / 256 ^ k : Nat) = 2 ^ (8 * (7 - k)) := by
  match k, h with
  | 0, _ => decide
  | 1, _ => decide
  | 2, _ => decide
  | 3, _ => decide
  | 4, _ => decide
  | 5, _ => decide
  | 6, _ => decide
  | 7, _ => decide
theorem worth_next (k : Nat) : (72057594037927936 / 256 ^ k / 256 : Nat) = 72057594037927936 / 256 ^ (k + 1) := by
  rw [Nat.div_div_eq_div_mul, Nat.pow_succ]
set_option maxRecDepth 100000 in
set_option maxHeartbeats 1000000 in
theorem refNumber_any (v : Int) (h1 : -9223372036854775808 ≤ v) (h2 : v ≤ 9223372036854775807) (w : World) :
    Calls Tryz.prog 60 #[.int .i64 v] w fun e w' => ∃ x, e = .returned x ∧ w'.ownsRow w.heap.size 5 1 x 8 ((nb v).map bc) ∧ Below w.heap.size w w' := by
  obtain ⟨i0, hi, hz0, hz1, hz2⟩ := info_parts info5
  obtain ⟨U, hU⟩ : ∃ U, U = v + 9223372036854775808 := ⟨_, rfl⟩
  have hu : IntKind.u64.wrap (IntKind.u64.wrap v + 9223372036854775808) = U := by rw [IntKind.wrap_u64, IntKind.wrap_u64]; omega
  have u1 : 0 ≤ U := by omega
  have u2 : U < 18446744073709551616 := by omega
  have HU : Hid (v + 9223372036854775808 = U) := hU.symm
  clear hU h1 h2
  go_enter Tryz.func60, Tryz.ntmps60
  go_wp2_with fail
  go_loopw [3, 5, 6] (fun x wo i wr => ∃ k : Nat, k ≤ 8 ∧ i = .int .i64 (k : Int) ∧ wo = .int .u64 ((72057594037927936 / 256 ^ k : Nat) : Int) ∧ wr.ownsRow w.heap.size 5 1 x k (((nb v).take k).map bc) ∧ Below w.heap.size w wr) (fun _ _ i _ => 8 - (intOf i).toNat)
  case atStart => exact ⟨0, by omega, rfl, rfl, World.ownsRow_nil _ _ _ _, Below.refl _ _⟩
  case round =>
    obtain ⟨k, hk, rfl, rfl, hown, hbr⟩ := hrel
    have hsz := hbr.size
    clear hu
    by_cases hlt : k < 8
    · have HSN : Hid _ := nb_snoc v k hlt
      have hwe := worth_eq k hlt
      have hwn := worth_next k
      have hby := byteOf_bd U k
      have hbe : byteOf U k = U / ((72057594037927936 / 256 ^ k : Nat) : Int) % 256 := by
        unfold byteOf; rw [hwe, Int.natCast_pow]; rfl
      have hpos : 0 < (72057594037927936 / 256 ^ k : Nat) := by rw [hwe]; exact Nat.pow_pos (by omega)
      have hle : (72057594037927936 / 256 ^ k : Nat) ≤ 72057594037927936 := Nat.div_le_self _ _
      generalize hq : (72057594037927936 / 256 ^ k : Nat) = q at *
      generalize hq1 : (72057594037927936 / 256 ^ (k + 1) : Nat) = q1 at *
      have hq0 : (q : Int) ≠ 0 := by omega
      have et : Int.tdiv U (q : Int) = U / (q : Int) := Int.tdiv_eq_ediv_of_nonneg u1
      have d1 : 0 ≤ U / (q : Int) := Int.ediv_nonneg u1 (by omega)
      have d2 : U / (q : Int) ≤ U := Int.ediv_le_self _ u1
      have hwq : (q : Int) / 256 = (q1 : Int) := by omega
      have hm : ((nb v).take k).length = k := by simp [nb_len]; omega
      have HBB : Hid (0 ≤ byteOf U k ∧ byteOf U k ≤ 255) := hby
      have HBE : Hid (byteOf U k = U / (q : Int) % 256) := hbe
      clear hwe hwn hby hbe
      go_wp2_with (at_builtin; refine wpList_append_own _ rfl _ _ 58 rfl w.heap.size 5 i0 (.int .u8 0) 1 1 Tryz.underlying58 hi hz0 hz1 hz2 rfl (by decide) _ _ _ rfl (hown.alloc _) ⟨wr.heap.size, 0, none⟩ 1 1 [.int .u8 (U / (q : Int) % 256)] rfl rfl news1 one1 (len_ok (by omega)).1 (len_ok (by omega)).2 (al_ok hsz) ?_)
      intro v' w1 hown' hgrow _
      have HO2 : Hid (w1.ownsRow w.heap.size 5 1 v' (k + 1) (((nb v).take (k + 1)).map bc)) := by
        rw [HSN.out, HU.out, List.map_append, List.map_take]
        simp only [List.map_cons, List.map_nil]
        have hb := HBB.out
        rw [bc_of (by omega), Int.toNat_of_nonneg hb.1, HBE.out]
        exact hown'
      have HB2 : Hid (Below w.heap.size w w1) := (hbr.alloc hbr.size _).grown hgrow (al_ok hsz) (own_block hown)
      clear hown hown' hgrow hbr hsz HSN HBB HBE et d1 d2
      go_wp2_with fail
      go_roundw
      case rel => exact ⟨k + 1, by omega, by go_num, by rw [hq1], HO2.out, HB2.out⟩
      case measure => simp [intOf]; omega
    · have hke : k = 8 := by omega
      subst hke
      have e : (nb v).take 8 = nb v := List.take_of_length_le (by rw [nb_len]; omega)
      rw [e] at hown
      have HO2 : Hid _ := hown
      have HB2 : Hid (Below w.heap.size w wr) := hbr
      clear hown hbr e
      generalize (72057594037927936 / 256 ^ 8 : Nat) = q at *
      go_wp2_with fail
      go_ret
      exact ⟨_, rfl, HO2.out, HB2.out⟩

set_option maxRecDepth 100000 in
set_option maxHeartbeats 1000000 in
theorem refReadNumber_any (v : Value) (l : List UInt8) (w : World) (h : Reads w v l) :
    Calls Tryz.prog 71 #[v] w fun e w' => e = .returned (.tuple #[.int .i64 (rnF l).1, .int .i64 (rnF l).2.1, .int .i64 (rnF l).2.2]) ∧ Below w.heap.size w w' := by
  by_cases h8 : l.length < 8
  · have e : rnF l = (0, 0, 10) := by unfold rnF; rw [if_pos h8]
    rw [e]
    obtain ⟨a, cap, rfl, _⟩ := h.form
    have i1 : (l.length : Int) < 8 := by omega
    clear h e
    go_enter Tryz.func71, Tryz.ntmps71
    go_wp2_with fail
    go_ret3
    exact ⟨rfl, Below.refl _ _⟩
  · have e : rnF l = (beval ((l.take 8).map fun x => (x.toNat : Int)) - 9223372036854775808, 8, 0) := by unfold rnF; rw [if_neg h8]
    rw [e]
    rcases h with ⟨rfl, a, cap, rfl, _⟩ | ⟨b, off, cap, rfl, g2, g3, g4, g5, g6⟩
    · simp at h8
    obtain ⟨zs, hzs⟩ : ∃ zs, zs = ((l.take 8).map fun x => (x.toNat : Int)) := ⟨_, rfl⟩
    rw [← hzs]
    have hlen : zs.length = 8 := by rw [hzs]; simp; omega
    have hz : ∀ x ∈ zs, 0 ≤ x ∧ x ≤ 255 := by
      rw [hzs]
      intro x hx
      obtain ⟨y, _, rfl⟩ := List.mem_map.1 hx
      have := UInt8.toNat_lt y
      omega
    have hcc : ∀ i, i < 8 → w.cell? ⟨b, off + i, none⟩ = some (.int .u8 (zs.getD i 0)) := by
      intro i hi
      rw [g6 i (by omega), hzs]
      unfold bc
      have e : ((l.take 8).map fun x => (x.toNat : Int)).getD i 0 = (l[i]'(by omega)).toNat := by
        have hl' : i < l.length := by omega
        simp [hi, List.getElem?_eq_getElem hl']
      rw [e]
    have i1 : ¬ (l.length : Int) < 8 := by omega
    have i2 : (8 : Int) ≤ (l.length : Int) := by omega
    have HBE : Hid _ := beval8 zs hlen hz
    clear g6 h8 e hzs
    go_enter Tryz.func71, Tryz.ntmps71
    go_wp2_with fail
    go_loop [5, 6] (fun n i => ∃ k : Nat, k ≤ 8 ∧ i = .int .i64 k ∧ n = .int .u64 (beval (zs.take k))) (fun _ i => 8 - (intOf i).toNat)
    case atStart => exact ⟨0, by omega, rfl, rfl⟩
    case round =>
      obtain ⟨k, hk, rfl, rfl⟩ := hrel
      by_cases hlt : k < 8
      · have hcell := hcc k hlt
        have hx := hz _ (getD_mem zs k (by omega))
        have HT : Hid _ := beval_take zs k (by omega)
        have hb := beval_bd zs hz k
        have hki : (k : Int) < (l.length : Int) := by omega
        have hq : (256 : Int) ^ k ≤ 72057594037927936 := by
          have : (256 : Int) ^ k ≤ 256 ^ 7 := by
            have h7 : (256 : Nat) ^ k ≤ 256 ^ 7 := Nat.pow_le_pow_right (by omega) (by omega)
            exact_mod_cast h7
          simpa using this
        generalize zs.getD k 0 = x at *
        generalize beval (zs.take k) = n at *
        generalize (256 : Int) ^ k = q at *
        obtain ⟨n1, n2⟩ := hb
        obtain ⟨x1, x2⟩ := hx
        have n3 : n < 72057594037927936 := by omega
        have hc5 : 256 * n + x = n * 256 + x := by omega
        clear hcc hq n2
        go_wp2_with fail
        go_round
        case rel => exact ⟨k + 1, by omega, by go_num, by rw [HT.out]⟩
        case measure => simp [intOf]; omega
      · have hke : k = 8 := by omega
        subst hke
        have e : zs.take 8 = zs := List.take_of_length_le (by omega)
        rw [e]
        have hb1 := HBE.out.1
        have hb2 := HBE.out.2
        clear hcc hz hlen HBE e
        obtain ⟨n, HNE⟩ : ∃ n, Hid (n = beval zs) := ⟨_, rfl⟩
        rw [← HNE.out] at hb1 hb2 ⊢
        have ht : IntKind.i64.wrap (IntKind.u64.wrap (n - 9223372036854775808)) = n - 9223372036854775808 := by
          rw [IntKind.wrap_u64, IntKind.wrap_i64]; omega
        clear hb1 hb2
        go_wp2_with fail
        go_ret3
        exact ⟨by rw [← HNE.out]; rfl, Below.refl _ _⟩
end Go.Proofs.YtoenijflijfogaaGreat
