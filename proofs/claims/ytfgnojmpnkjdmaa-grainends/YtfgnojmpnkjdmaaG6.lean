/- The contracts of grain's fault, Step, Bucket, Expired and End. -/
import Derived.Test.YtfgnojmpnkjdmaaG5
namespace Go.Proofs.Ytfgnojmpnkjdmaa
open Go.RowKit

theorem Lies.at {R : Rl} {N : Nat} {w w' : World} (h : Lies R N w) (hb : Below N w w') : Lies R w'.heap.size w' := by
  obtain ⟨h0, h1, h2⟩ := h.below hb (Nat.le_refl _)
  refine ⟨h0, Nat.le_refl _, ?_⟩
  rcases h2 with h | ⟨b, off, ha, hbN, hc⟩
  · exact .inl h
  · exact .inr ⟨b, off, ha, by omega, hc⟩
theorem new_below (w : World) (o : Obj) : Below w.heap.size w (w.alloc o) := (Below.refl _ _).alloc (Nat.le_refl _) o

/-- What is wrong with rules, a time and a watermark. -/
def fE (R : Rl) (t w : Int) : Int := if RightP R then (if isT t && isT w then 0 else 1) else 30
theorem fE_ok {R : Rl} {t w : Int} (h : fE R t w = 0) : RightP R ∧ isT t = true ∧ isT w = true := by
  unfold fE at h
  split at h
  · rename_i hR
    split at h
    · rename_i ht
      simp at ht; exact ⟨hR, ht⟩
    · omega
  · omega
theorem fE_of {R : Rl} {t w : Int} (hR : RightP R) (ht : isT t = true) (hw : isT w = true) : fE R t w = 0 := by
  unfold fE; rw [if_pos hR, ht, hw]; rfl
set_option maxRecDepth 100000 in
set_option maxHeartbeats 1000000 in
theorem fault_any (R : Rl) (t wm : Int) (w : World) (hL : Lies R w.heap.size w) :
    Calls Try.prog 27 #[.agg #[.slice R.a R.len R.cap, .int .i64 R.kp], .int .i64 t, .int .i64 wm] w fun e w' => e = .returned (.int .i64 (fE R t wm)) ∧ Below w.heap.size w w' := by
  have HL : Hid (Lies R w.heap.size w) := hL
  clear hL
  unfold fE
  by_cases hR : RightP R
  · rw [if_pos hR]
    have hd : decide (RightP R) = true := by simpa using hR
    clear hR
    cases ht : isT t
    · go_enter Try.func27, Try.ntmps27
      go_wp2_with fail
      refine (right_any R _ (HL.out.at (new_below _ _))).mono ?_
      rw [hd]
      rintro e w1 ⟨rfl, hb1⟩
      have HB1 : Hid (Below w.heap.size w w1) := (new_below _ _).trans (hb1.mono (by simp))
      clear hb1 hd
      go_wp2_with fail
      refine (isTime_any t _).mono ?_
      rw [ht]
      rintro e w' ⟨rfl, rfl⟩
      clear ht
      go_wp2_with fail
      go_ret
      exact ⟨rfl, HB1.out⟩
    · cases hw : isT wm
      · go_enter Try.func27, Try.ntmps27
        go_wp2_with fail
        refine (right_any R _ (HL.out.at (new_below _ _))).mono ?_
        rw [hd]
        rintro e w1 ⟨rfl, hb1⟩
        have HB1 : Hid (Below w.heap.size w w1) := (new_below _ _).trans (hb1.mono (by simp))
        clear hb1 hd
        go_wp2_with fail
        refine (isTime_any t _).mono ?_
        rw [ht]
        rintro e w' ⟨rfl, rfl⟩
        clear ht
        go_wp2_with fail
        refine (isTime_any wm _).mono ?_
        rw [hw]
        rintro e w' ⟨rfl, rfl⟩
        clear hw
        go_wp2_with fail
        go_ret
        exact ⟨rfl, HB1.out⟩
      · go_enter Try.func27, Try.ntmps27
        go_wp2_with fail
        refine (right_any R _ (HL.out.at (new_below _ _))).mono ?_
        rw [hd]
        rintro e w1 ⟨rfl, hb1⟩
        have HB1 : Hid (Below w.heap.size w w1) := (new_below _ _).trans (hb1.mono (by simp))
        clear hb1 hd
        go_wp2_with fail
        refine (isTime_any t _).mono ?_
        rw [ht]
        rintro e w' ⟨rfl, rfl⟩
        clear ht
        go_wp2_with fail
        refine (isTime_any wm _).mono ?_
        rw [hw]
        rintro e w' ⟨rfl, rfl⟩
        clear hw
        go_wp2_with fail
        go_ret
        exact ⟨rfl, HB1.out⟩
  · rw [if_neg hR]
    have hd : decide (RightP R) = false := by simpa using hR
    clear hR
    go_enter Try.func27, Try.ntmps27
    go_wp2_with fail
    refine (right_any R _ (HL.out.at (new_below _ _))).mono ?_
    rw [hd]
    rintro e w1 ⟨rfl, hb1⟩
    have HB1 : Hid (Below w.heap.size w w1) := (new_below _ _).trans (hb1.mono (by simp))
    clear hb1 hd
    go_wp2_with fail
    go_ret
    exact ⟨rfl, HB1.out⟩

/-- What Step tells. -/
def stA (R : Rl) (t w : Int) (K : Nat) : Int := if fE R t w = 0 then (K : Int) else 0
set_option maxRecDepth 100000 in
set_option maxHeartbeats 1000000 in
theorem step_any (R : Rl) (t wm : Int) (K : Nat) (hK : fE R t wm = 0 → IsStep R t wm K) (w : World) (hL : Lies R w.heap.size w) :
    Calls Try.prog 14 #[.agg #[.slice R.a R.len R.cap, .int .i64 R.kp], .int .i64 t, .int .i64 wm] w fun e w' => e = .returned (.tuple #[.int .i64 (stA R t wm K), .int .i64 (fE R t wm)]) ∧ Below w.heap.size w w' := by
  have HL : Hid (Lies R w.heap.size w) := hL
  clear hL
  unfold stA
  by_cases h0 : fE R t wm = 0
  · rw [if_pos h0, h0]
    have HK : Hid (IsStep R t wm K) := hK h0
    have HF : Hid (RightP R ∧ isT t = true ∧ isT wm = true) := fE_ok h0
    clear hK
    have H0 : Hid _ := h0
    clear h0
    go_enter Try.func14, Try.ntmps14
    go_wp2_with fail
    refine (fault_any R t wm _ (HL.out.at (new_below _ _))).mono ?_
    rw [H0.out]
    rintro e w1 ⟨rfl, hb1⟩
    have HB1 : Hid (Below w.heap.size w w1) := (new_below _ _).trans (hb1.mono (by simp))
    obtain ⟨_, c0, c1⟩ := (RBox.new R w _).below hb1
    clear hb1
    go_wp2_with fail
    refine (stepAt_any R HF.out.1 t wm HF.out.2.1 HF.out.2.2 K HK.out _ (HL.out.at HB1.out)).mono ?_
    rintro e w2 ⟨rfl, hb2⟩
    have HB2 : Hid (Below w.heap.size w w2) := HB1.out.trans (hb2.mono HB1.out.size)
    clear hb2 c0 c1
    go_wp2_with fail
    go_ret2
    exact ⟨rfl, HB2.out⟩
  · rw [if_neg h0]
    have hne : (fE R t wm == 0) = false := by simpa using h0
    have hne2 : (fE R t wm != 0) = true := by simpa using h0
    clear hK h0
    go_enter Try.func14, Try.ntmps14
    go_wp2_with fail
    refine (fault_any R t wm _ (HL.out.at (new_below _ _))).mono ?_
    rintro e w1 ⟨rfl, hb1⟩
    have HB1 : Hid (Below w.heap.size w w1) := (new_below _ _).trans (hb1.mono (by simp))
    clear hb1
    go_wp2_with fail
    go_ret2
    exact ⟨rfl, HB1.out⟩

theorem row_cells {R : Rl} {w : World} (hR : RightP R) (hL : Lies R w.heap.size w) {k : Nat} (hk : k < R.len) : ∃ b off, R.a = some ⟨b, off, none⟩ ∧ w.cell? ⟨b, off + k * 2, none⟩ = some (.int .i64 (R.sz k)) ∧ w.cell? ⟨b, off + k * 2 + 1, none⟩ = some (.int .i64 (R.ag k)) := by
  obtain ⟨_, _, hc⟩ := hL
  rcases hc with hc | ⟨b, off, ha, _, hc⟩
  · have := hR.1; omega
  · exact ⟨b, off, ha, (hc k hk).1, (hc k hk).2⟩

/-- Where Bucket tells that it begins. -/
def buA (R : Rl) (t w : Int) (K : Nat) : Int := if fE R t w = 0 then t - t % R.sz K else 0
set_option maxRecDepth 100000 in
set_option maxHeartbeats 1000000 in
theorem bucket_any (R : Rl) (t wm : Int) (K : Nat) (hK : fE R t wm = 0 → IsStep R t wm K) (w : World) (hL : Lies R w.heap.size w) :
    Calls Try.prog 16 #[.agg #[.slice R.a R.len R.cap, .int .i64 R.kp], .int .i64 t, .int .i64 wm] w fun e w' => e = .returned (.tuple #[.int .i64 (buA R t wm K), .int .i64 (stA R t wm K), .int .i64 (fE R t wm)]) ∧ Below w.heap.size w w' := by
  have HL : Hid (Lies R w.heap.size w) := hL
  clear hL
  unfold stA buA
  by_cases h0 : fE R t wm = 0
  · rw [if_pos h0, if_pos h0, h0]
    have HK : Hid (IsStep R t wm K) := hK h0
    have HF : Hid (RightP R ∧ isT t = true ∧ isT wm = true) := fE_ok h0
    have H0 : Hid (fE R t wm = 0) := h0
    clear h0 hK
    go_enter Try.func16, Try.ntmps16
    go_wp2_with fail
    refine (fault_any R t wm _ (HL.out.at (new_below _ _))).mono ?_
    rw [H0.out]
    rintro e w1 ⟨rfl, hb1⟩
    have HB1 : Hid (Below w.heap.size w w1) := (new_below _ _).trans (hb1.mono (by simp))
    have HX1 : Hid (RBox R w.heap.size w1) := (RBox.new R w _).below hb1
    obtain ⟨_, c0, c1⟩ := HX1.out
    clear hb1
    go_wp2_with fail
    refine (stepAt_any R HF.out.1 t wm HF.out.2.1 HF.out.2.2 K HK.out _ (HL.out.at HB1.out)).mono ?_
    rintro e w2 ⟨rfl, hb2⟩
    have HB2 : Hid (Below w.heap.size w w2) := HB1.out.trans (hb2.mono HB1.out.size)
    have HL2 : Hid (Lies R w2.heap.size w2) := HL.out.at HB2.out
    have HX2 : Hid (RBox R w.heap.size w2) := HX1.out.below hb2
    clear hb2 c0 c1
    obtain ⟨_, c0, c1⟩ := HX2.out
    obtain ⟨b, off, ha, d0, d1⟩ := row_cells HF.out.1 HL2.out HK.out.1
    have i1 : (K : Int) < (R.len : Int) := by have := HK.out.1; omega
    rw [ha] at c0
    go_wp2_with fail
    refine (begin_any t (R.sz K) HF.out.2.1 (sz_ok HF.out.1 HK.out.1) _).mono ?_
    rintro e w3 ⟨rfl, rfl⟩
    clear c0 c1 d0 d1
    go_wp2_with fail
    refine bodyPost_ret (v := .tuple #[.int .i64 (t - t % R.sz K), .int .i64 K, .int .i64 0]) (by simp [results, Try.results16, go_sem]) rfl ⟨rfl, ?_⟩
    exact HB2.out
  · rw [if_neg h0, if_neg h0]
    have hne : (fE R t wm == 0) = false := by simpa using h0
    have hne2 : (fE R t wm != 0) = true := by simpa using h0
    clear h0 hK
    go_enter Try.func16, Try.ntmps16
    go_wp2_with fail
    refine (fault_any R t wm _ (HL.out.at (new_below _ _))).mono ?_
    rintro e w1 ⟨rfl, hb1⟩
    have HB1 : Hid (Below w.heap.size w w1) := (new_below _ _).trans (hb1.mono (by simp))
    clear hb1
    go_wp2_with fail
    refine bodyPost_ret (v := .tuple #[.int .i64 0, .int .i64 0, .int .i64 (fE R t wm)]) (by simp [results, Try.results16, go_sem]) rfl ⟨rfl, ?_⟩
    exact HB1.out

/-- Whether Expired tells that it is. -/
def exA (R : Rl) (t w : Int) : Bool := if fE R t w = 0 then decide (endF t (R.sz (R.len - 1)) ≤ w - R.kp) else false
set_option maxRecDepth 100000 in
set_option maxHeartbeats 1000000 in
theorem expired_any (R : Rl) (t wm : Int) (w : World) (hL : Lies R w.heap.size w) :
    Calls Try.prog 18 #[.agg #[.slice R.a R.len R.cap, .int .i64 R.kp], .int .i64 t, .int .i64 wm] w fun e w' => e = .returned (.tuple #[.bool (exA R t wm), .int .i64 (fE R t wm)]) ∧ Below w.heap.size w w' := by
  have HL : Hid (Lies R w.heap.size w) := hL
  clear hL
  unfold exA
  by_cases h0 : fE R t wm = 0
  · rw [if_pos h0, h0]
    have HF : Hid (RightP R ∧ isT t = true ∧ isT wm = true) := fE_ok h0
    have H0 : Hid (fE R t wm = 0) := h0
    clear h0
    obtain ⟨m, hm⟩ : ∃ m, R.len = m + 1 := ⟨R.len - 1, by have := HF.out.1.1; omega⟩
    have em : R.len - 1 = m := by omega
    rw [em]
    have hle := HF.out.1.2.1
    have hkp1 := HF.out.1.2.2.2.2.1
    have hkp2 := HF.out.1.2.2.2.2.2
    have hag := (isT_iff _).1 (ag_ok HF.out.1 (i := R.len - 1) (by omega))
    have hwm := (isT_iff _).1 HF.out.2.2
    have hwk : IntKind.i64.wrap (wm - R.kp) = wm - R.kp := by rw [IntKind.wrap_i64]; omega
    have hwl : IntKind.i64.wrap ((R.len : Int) - 1) = (m : Int) := by rw [IntKind.wrap_i64]; omega
    have i0 : (0 : Int) ≤ (m : Int) := by omega
    have i1 : (m : Int) < (R.len : Int) := by omega
    have HM : Hid (m < R.len) := by unfold Hid; omega
    clear hkp1 hkp2 hag hwm hm em hle
    go_enter Try.func18, Try.ntmps18
    go_wp2_with fail
    refine (fault_any R t wm _ (HL.out.at (new_below _ _))).mono ?_
    rw [H0.out]
    rintro e w1 ⟨rfl, hb1⟩
    have HB1 : Hid (Below w.heap.size w w1) := (new_below _ _).trans (hb1.mono (by simp))
    have HX1 : Hid (RBox R w.heap.size w1) := (RBox.new R w _).below hb1
    have HL1 : Hid (Lies R w1.heap.size w1) := HL.out.at HB1.out
    obtain ⟨_, c0, c1⟩ := HX1.out
    obtain ⟨b, off, ha, d0, d1⟩ := row_cells HF.out.1 HL1.out HM.out
    rw [ha] at c0
    clear hb1
    go_wp2_with fail
    have HBa : Hid (Below w.heap.size w (w1.alloc (.cells #[.int .i64 (R.sz m), .int .i64 (R.ag m)] 40))) := HB1.out.alloc HB1.out.size _
    have c1' : (w1.alloc (.cells #[.int .i64 (R.sz m), .int .i64 (R.ag m)] 40)).cell? ⟨w.heap.size, 1, none⟩ = some (.int .i64 R.kp) := ((new_below w1 _).cell (p := ⟨w.heap.size, 1, none⟩) HX1.out.1).trans c1
    go_region_held3 (fun w' => w'.cell? ⟨w1.heap.size, 0, none⟩ = some (.int .i64 (R.sz m)) ∧ w'.cell? ⟨w.heap.size, 1, none⟩ = some (.int .i64 R.kp) ∧ Below w.heap.size w w') (first | exact ⟨by simp [go_sem], c1', HBa.out.drew⟩ | assumption) (first | (go_at_call 30; refine (end_any t (R.sz m) HF.out.2.1 (sz_ok HF.out.1 HM.out) _).mono ?_; rintro e w' ⟨rfl, rfl⟩))
    rename_i HZ
    clear c0 c1 c1' d0 d1
    go_wp2_with fail
    go_ret2
    exact ⟨rfl, HZ.2.2⟩
  · rw [if_neg h0]
    have hne : (fE R t wm == 0) = false := by simpa using h0
    have hne2 : (fE R t wm != 0) = true := by simpa using h0
    clear h0
    go_enter Try.func18, Try.ntmps18
    go_wp2_with fail
    refine (fault_any R t wm _ (HL.out.at (new_below _ _))).mono ?_
    rintro e w1 ⟨rfl, hb1⟩
    have HB1 : Hid (Below w.heap.size w w1) := (new_below _ _).trans (hb1.mono (by simp))
    clear hb1
    go_wp2_with fail
    go_ret2
    exact ⟨rfl, HB1.out⟩

/-- What End tells. -/
def enE (R : Rl) (t s : Int) : Int := if RightP R then (if isT t && decide (0 ≤ s) && decide (s < R.len) then 0 else 1) else 30
def enA (R : Rl) (t s : Int) : Int := if enE R t s = 0 then endF t (R.sz s.toNat) else 0
theorem enE_ok {R : Rl} {t s : Int} (h : enE R t s = 0) : RightP R ∧ isT t = true ∧ 0 ≤ s ∧ s < R.len := by
  unfold enE at h
  split at h
  · rename_i hR
    split at h
    · rename_i ht
      simp at ht; exact ⟨hR, ht.1.1, ht.1.2, ht.2⟩
    · omega
  · omega
theorem enE_of {R : Rl} {t : Int} {s : Nat} (hR : RightP R) (ht : isT t = true) (hs : s < R.len) : enE R t s = 0 := by
  unfold enE; rw [if_pos hR, ht]; simp; omega
theorem enA_of {R : Rl} {t : Int} {s : Nat} (hR : RightP R) (ht : isT t = true) (hs : s < R.len) : enA R t s = endF t (R.sz s) := by
  unfold enA; rw [if_pos (enE_of hR ht hs)]; rfl
set_option maxRecDepth 100000 in
set_option maxHeartbeats 1000000 in
theorem end_call (R : Rl) (t s : Int) (w : World) (hL : Lies R w.heap.size w) :
    Calls Try.prog 20 #[.agg #[.slice R.a R.len R.cap, .int .i64 R.kp], .int .i64 t, .int .i64 s] w fun e w' => e = .returned (.tuple #[.int .i64 (enA R t s), .int .i64 (enE R t s)]) ∧ Below w.heap.size w w' := by
  have HL : Hid (Lies R w.heap.size w) := hL
  clear hL
  by_cases h0 : enE R t s = 0
  · unfold enA
    rw [if_pos h0, h0]
    have HF : Hid (RightP R ∧ isT t = true ∧ 0 ≤ s ∧ s < R.len) := enE_ok h0
    obtain ⟨k, hk⟩ : ∃ k : Nat, s = k := ⟨s.toNat, by have := HF.out.2.2.1; omega⟩
    subst hk
    clear h0
    have hd : decide (RightP R) = true := by simpa using HF.out.1
    have ht := HF.out.2.1
    have i1 : (k : Int) < (R.len : Int) := HF.out.2.2.2
    have i2 : decide ((R.len : Int) ≤ (k : Int)) = false := by simp; omega
    have HM : Hid (k < R.len) := by unfold Hid; omega
    simp only [Int.toNat_natCast]
    go_enter Try.func20, Try.ntmps20
    go_wp2_with fail
    refine (right_any R _ (HL.out.at (new_below _ _))).mono ?_
    rw [hd]
    rintro e w1 ⟨rfl, hb1⟩
    have HB1 : Hid (Below w.heap.size w w1) := (new_below _ _).trans (hb1.mono (by simp))
    have HX1 : Hid (RBox R w.heap.size w1) := (RBox.new R w _).below hb1
    have HL1 : Hid (Lies R w1.heap.size w1) := HL.out.at HB1.out
    obtain ⟨_, c0, c1⟩ := HX1.out
    obtain ⟨b, off, ha, d0, d1⟩ := row_cells HF.out.1 HL1.out HM.out
    rw [ha] at c0
    clear hb1 hd
    go_wp2_with fail
    refine (isTime_any t _).mono ?_
    rw [ht]
    rintro e w' ⟨rfl, rfl⟩
    clear ht
    go_wp2_with fail
    refine (end_any t (R.sz k) HF.out.2.1 (sz_ok HF.out.1 HM.out) _).mono ?_
    rintro e w' ⟨rfl, rfl⟩
    clear c0 c1 d0 d1
    go_wp2_with fail
    go_ret2
    exact ⟨rfl, HB1.out⟩
  · have ea : enA R t s = 0 := by unfold enA; rw [if_neg h0]
    rw [ea]
    by_cases hR : RightP R
    · have e1 : enE R t s = 1 := by
        unfold enE at h0 ⊢; rw [if_pos hR] at h0 ⊢
        by_cases hh : (isT t && decide (0 ≤ s) && decide (s < R.len)) = true
        · rw [if_pos hh] at h0; exact absurd rfl h0
        · rw [if_neg hh]
      have hn : ¬ (isT t && decide (0 ≤ s) && decide (s < R.len)) = true := fun hh => h0 (by unfold enE; rw [if_pos hR, if_pos hh])
      rw [e1]
      have hd : decide (RightP R) = true := by simpa using hR
      have hle := hR.2.1
      clear h0 ea e1 hR
      have HX0 : Hid (RBox R w.heap.size (w.alloc (.cells #[.slice R.a R.len R.cap, .int .i64 R.kp] 24))) := RBox.new R w _
      cases ht : isT t
      · clear hn
        go_enter Try.func20, Try.ntmps20
        go_wp2_with fail
        refine (right_any R _ (HL.out.at (new_below _ _))).mono ?_
        rw [hd]
        rintro e w1 ⟨rfl, hb1⟩
        have HB1 : Hid (Below w.heap.size w w1) := (new_below _ _).trans (hb1.mono (by simp))
        clear hb1 hd
        go_wp2_with fail
        refine (isTime_any t _).mono ?_
        rw [ht]
        rintro e w' ⟨rfl, rfl⟩
        clear ht
        go_wp2_with fail
        go_ret2
        exact ⟨rfl, HB1.out⟩
      · rw [ht] at hn
        by_cases hs : s < 0
        · have g1 : decide (s < 0) = true := by simpa using hs
          clear hn hs
          go_enter Try.func20, Try.ntmps20
          go_wp2_with fail
          refine (right_any R _ (HL.out.at (new_below _ _))).mono ?_
          rw [hd]
          rintro e w1 ⟨rfl, hb1⟩
          have HB1 : Hid (Below w.heap.size w w1) := (new_below _ _).trans (hb1.mono (by simp))
          clear hb1 hd
          go_wp2_with fail
          refine (isTime_any t _).mono ?_
          rw [ht]
          rintro e w' ⟨rfl, rfl⟩
          clear ht
          go_wp2_with fail
          go_ret2
          exact ⟨rfl, HB1.out⟩
        · have g1 : decide (s < 0) = false := by simpa using hs
          have g2 : decide ((R.len : Int) ≤ s) = true := by simp at hn ⊢; omega
          clear hn hs
          go_enter Try.func20, Try.ntmps20
          go_wp2_with fail
          refine (right_any R _ (HL.out.at (new_below _ _))).mono ?_
          rw [hd]
          rintro e w1 ⟨rfl, hb1⟩
          have HB1 : Hid (Below w.heap.size w w1) := (new_below _ _).trans (hb1.mono (by simp))
          obtain ⟨_, c0, c1⟩ := HX0.out.below hb1
          clear hb1 hd
          go_wp2_with fail
          refine (isTime_any t _).mono ?_
          rw [ht]
          rintro e w' ⟨rfl, rfl⟩
          clear ht
          go_wp2_with fail
          go_ret2
          exact ⟨rfl, HB1.out⟩
    · have e1 : enE R t s = 30 := by unfold enE; rw [if_neg hR]
      rw [e1]
      have hd : decide (RightP R) = false := by simpa using hR
      clear h0 ea e1 hR
      go_enter Try.func20, Try.ntmps20
      go_wp2_with fail
      refine (right_any R _ (HL.out.at (new_below _ _))).mono ?_
      rw [hd]
      rintro e w1 ⟨rfl, hb1⟩
      have HB1 : Hid (Below w.heap.size w w1) := (new_below _ _).trans (hb1.mono (by simp))
      clear hb1 hd
      go_wp2_with fail
      go_ret2
      exact ⟨rfl, HB1.out⟩
end Go.Proofs.Ytfgnojmpnkjdmaa
