/- G4 G5 G6 G7 G8, joined. -/
import Derived.Test.YthicmbjiblbcmaaGreatTQ14
import Derived.WalkMore
/- Plain arithmetic of buckets and steps: no program in sight. -/
namespace Go.Proofs.YthicmbjiblbcmaaGreat
open Go.RowKit

theorem mul_lt_succ {s a b : Int} (hs : 0 < s) (h : s * a < s * b) : s * a + s ≤ s * b := by
  have h1 : a < b := Int.lt_of_mul_lt_mul_left h (by omega)
  have h2 : s * (a + 1) ≤ s * b := Int.mul_le_mul_of_nonneg_left (by omega) (by omega)
  rw [Int.mul_add, Int.mul_one] at h2
  exact h2
/-- A finer bucket lies within the coarser one. -/
theorem nest (t s S : Int) (h1 : 1 ≤ s) (h2 : s < S) (hd : S % s = 0) (ht : 0 ≤ t) : t - t % S ≤ t - t % s ∧ endF t s ≤ endF t S := by
  have e1 := Int.emod_add_mul_ediv t s
  have e2 := Int.emod_add_mul_ediv t S
  obtain ⟨c, hc⟩ := Int.dvd_of_emod_eq_zero hd
  have b1 := mod_bd t s ht h1
  have b2 := mod_bd t S ht (by omega)
  have f1 : t - t % s = s * (t / s) := by omega
  have f2 : t - t % S = s * (c * (t / S)) := by rw [← Int.mul_assoc, ← hc]; omega
  have f3 : t - t % S + S = s * (c * (t / S) + c) := by rw [f2, Int.mul_add, ← hc]
  constructor
  · by_cases h : t - t % S ≤ t - t % s
    · exact h
    · have : s * (t / s) < s * (c * (t / S)) := by omega
      have := mul_lt_succ (by omega) this
      omega
  · unfold endF
    have : s * (t / s) < s * (c * (t / S) + c) := by omega
    have := mul_lt_succ (by omega) this
    omega

/-- A step's bucket is old enough. -/
def cnd (R : Rl) (t w : Int) (j : Nat) : Prop := endF t (R.sz j) ≤ w - R.ag j
instance (R : Rl) (t w : Int) (j : Nat) : Decidable (cnd R t w j) := by unfold cnd; infer_instance
theorem fol_facts {R : Rl} (hR : RightP R) {j : Nat} (hj : j + 1 < R.len) : 1 ≤ R.sz j ∧ R.sz j < R.sz (j + 1) ∧ R.sz (j + 1) % R.sz j = 0 ∧ R.ag j ≤ R.ag (j + 1) := by
  obtain ⟨_, _, _, h, _⟩ := hR
  have h0 := (isS_iff _).1 (h j (by omega)).1
  have h1 := (h (j + 1) hj).2.2 (by omega)
  simp only [Nat.add_sub_cancel] at h1
  unfold folB at h1
  simp at h1
  exact ⟨h0.1, h1.1, h1.2.1, h1.2.2⟩
theorem cnd_down {R : Rl} (hR : RightP R) {t w : Int} (ht : isT t = true) {j : Nat} (hj : j + 1 < R.len) (h : cnd R t w (j + 1)) : cnd R t w j := by
  obtain ⟨f1, f2, f3, f4⟩ := fol_facts hR hj
  have := (nest t _ _ f1 f2 f3 ((isT_iff t).1 ht).1).2
  unfold cnd at *
  omega
theorem cnd_le {R : Rl} (hR : RightP R) {t w : Int} (ht : isT t = true) (d : Nat) : ∀ i, i + d < R.len → cnd R t w (i + d) → cnd R t w i := by
  induction d with
  | zero => intro i _ h; exact h
  | succ d ih => intro i hi h; exact ih i (by omega) (cnd_down hR ht (by omega) h)
/-- The step of a time at a watermark. -/
def IsStep (R : Rl) (t w : Int) (k : Nat) : Prop := k < R.len ∧ (k = 0 ∨ cnd R t w k) ∧ ∀ j, k < j → j < R.len → ¬ cnd R t w j
theorem IsStep.uniq {R : Rl} {t w : Int} {k l : Nat} (h : IsStep R t w k) (g : IsStep R t w l) : k = l := by
  rcases Nat.lt_trichotomy k l with e | e | e
  · rcases g.2.1 with h0 | h0
    · omega
    · exact absurd h0 (h.2.2 l e g.1)
  · exact e
  · rcases h.2.1 with h0 | h0
    · omega
    · exact absurd h0 (g.2.2 k e h.1)
theorem step_ex (R : Rl) (t w : Int) (n : Nat) (hn : n < R.len) (h : ∀ j, n < j → j < R.len → ¬ cnd R t w j) : ∃ k, IsStep R t w k := by
  induction n with
  | zero => exact ⟨0, hn, .inl rfl, h⟩
  | succ n ih =>
    by_cases hc : cnd R t w (n + 1)
    · exact ⟨n + 1, hn, .inr hc, h⟩
    · refine ih (by omega) fun j h1 h2 => ?_
      rcases Nat.lt_or_ge (n + 1) j with h3 | h3
      · exact h j h3 h2
      · have : j = n + 1 := by omega
        subst this; exact hc
theorem step_exists {R : Rl} (hR : RightP R) (t w : Int) : ∃ k, IsStep R t w k :=
  step_ex R t w (R.len - 1) (by have := hR.1; omega) (fun j h1 h2 => by omega)
/-- The first that is not old enough, behind those that are. -/
theorem isStep_break {R : Rl} (hR : RightP R) {t w : Int} (ht : isT t = true) {k : Nat} (hk : k < R.len) (h : ∀ j, j < k → cnd R t w j) (hn : ¬ cnd R t w k) : IsStep R t w (k - 1) := by
  refine ⟨by omega, ?_, ?_⟩
  · rcases Nat.eq_zero_or_pos k with h0 | h0
    · exact .inl (by omega)
    · exact .inr (h _ (by omega))
  · intro j h1 h2 hc
    exact hn (cnd_le hR ht (j - k) k (by omega) (by rw [show k + (j - k) = j by omega]; exact hc))
theorem isStep_all {R : Rl} (hR : RightP R) {t w : Int} (h : ∀ j, j < R.len → cnd R t w j) : IsStep R t w (R.len - 1) :=
  ⟨by have := hR.1; omega, .inr (h _ (by have := hR.1; omega)), fun j h1 h2 => by omega⟩
theorem sz_ok {R : Rl} (hR : RightP R) {i : Nat} (hi : i < R.len) : isS (R.sz i) = true := (hR.2.2.2.1 i hi).1
theorem ag_ok {R : Rl} (hR : RightP R) {i : Nat} (hi : i < R.len) : isT (R.ag i) = true := (hR.2.2.2.1 i hi).2.1
end Go.Proofs.YthicmbjiblbcmaaGreat

/- The contract of grain's stepAt. -/
namespace Go.Proofs.YthicmbjiblbcmaaGreat
open Go.RowKit

set_option maxRecDepth 100000 in
set_option maxHeartbeats 1000000 in
theorem stepAt_any (R : Rl) (hR : RightP R) (t wm : Int) (ht : isT t = true) (hw : isT wm = true) (K : Nat) (hK : IsStep R t wm K) (w : World) (hL : Lies R w.heap.size w) :
    Calls Tryz.prog 63 #[.slice R.a R.len R.cap, .int .i64 t, .int .i64 wm] w fun e w' => e = .returned (.int .i64 K) ∧ Below w.heap.size w w' := by
  obtain ⟨hm, _, hc⟩ := hL
  rcases hc with hc | ⟨b, off, ha, hbN, hc⟩
  · exact absurd hR.1 (by omega)
  rw [ha]
  have hl4 := hR.2.1
  have HR : Hid _ := hR
  have HKS : Hid _ := hK
  have HT : Hid _ := ht
  obtain ⟨t1, t2⟩ := (isT_iff t).1 ht
  obtain ⟨w1, w2⟩ := (isT_iff wm).1 hw
  clear hR hK ht hw
  go_enter Tryz.func63, Tryz.ntmps63
  go_wp2_with fail
  go_step3
  go_wp2_with fail
  go_step3
  go_wp2_with fail
  go_loopw [7, 12] (fun f i wr => ∃ k : Nat, k ≤ R.len ∧ f = .int .i64 ((k - 1 : Nat) : Int) ∧ i = .int .i64 k ∧ (∀ j, j < k → cnd R t wm j) ∧ Below w.heap.size w wr) (fun _ i _ => R.len - (intOf i).toNat)
  case atStart =>
    exact ⟨0, by omega, rfl, rfl, fun j hj => by omega, Below.refl _ _⟩
  case round =>
    obtain ⟨k, hk, rfl, rfl, hok, hbel⟩ := hrel
    by_cases hlt : k < R.len
    · have q0 : wr.cell? ⟨b, off + k * 2, none⟩ = some (.int .i64 (R.sz k)) := (hbel.cell (p := ⟨b, off + k * 2, none⟩) hbN).trans (hc k hlt).1
      have q1 : wr.cell? ⟨b, off + k * 2 + 1, none⟩ = some (.int .i64 (R.ag k)) := (hbel.cell (p := ⟨b, off + k * 2 + 1, none⟩) hbN).trans (hc k hlt).2
      have hki : ((k : Int) < (R.len : Int)) := by omega
      have HS : Hid _ := sz_ok HR.out hlt
      have hag := (isT_iff _).1 (ag_ok HR.out hlt)
      have HB : Hid (Below w.heap.size w wr) := hbel
      have HO : Hid (∀ j, j < k → cnd R t wm j) := hok
      have hsz := hbel.size
      have hwr : IntKind.i64.wrap (wm - R.ag k) = wm - R.ag k := by rw [IntKind.wrap_i64]; omega
      clear hbel hc hok hag
      by_cases hcn : cnd R t wm k
      · have hd : decide (endF t (R.sz k) ≤ wm - R.ag k) = true := by simpa [cnd] using hcn
        have HCN : Hid _ := hcn
        clear hcn
        go_wp2_with fail
        go_region_held3 (fun w' => w'.cell? ⟨wr.heap.size, 0, none⟩ = some (.int .i64 (R.sz k)) ∧ w'.cell? ⟨wr.heap.size, 1, none⟩ = some (.int .i64 (R.ag k)) ∧ Below w.heap.size w w') (first | exact ⟨by simp [go_sem], by simp [go_sem], (HB.out.alloc hsz _).drew⟩ | assumption) (first | (go_at_call 67; refine (end_any t (R.sz k) HT.out HS.out _).mono ?_; rintro e w' ⟨rfl, rfl⟩))
        rename_i HZ
        go_wp2_with fail
        go_roundw
        case rel =>
          refine ⟨k + 1, by omega, by simp, by go_num, fun j hj => ?_, HZ.2.2⟩
          rcases Nat.lt_or_ge j k with h | h
          · exact HO.out j h
          · have : j = k := by omega
            subst this; exact HCN.out
        case measure => simp [intOf]; omega
      · have hd : decide (endF t (R.sz k) ≤ wm - R.ag k) = false := by simpa [cnd] using hcn
        have HE : Hid (k - 1 = K) := (isStep_break HR.out HT.out hlt HO.out hcn).uniq HKS.out
        clear hcn
        go_wp2_with fail
        go_region_held3 (fun w' => w'.cell? ⟨wr.heap.size, 0, none⟩ = some (.int .i64 (R.sz k)) ∧ w'.cell? ⟨wr.heap.size, 1, none⟩ = some (.int .i64 (R.ag k)) ∧ Below w.heap.size w w') (first | exact ⟨by simp [go_sem], by simp [go_sem], (HB.out.alloc hsz _).drew⟩ | assumption) (first | (go_at_call 67; refine (end_any t (R.sz k) HT.out HS.out _).mono ?_; rintro e w' ⟨rfl, rfl⟩))
        rename_i HZ
        go_wp2_with fail
        rw [Exit.noGoto_ret]
        go_ret
        exact ⟨by rw [HE.out]; rfl, HZ.2.2⟩
    · have hke : k = R.len := by omega
      subst hke
      have HE : Hid (R.len - 1 = K) := (isStep_all HR.out hok).uniq HKS.out
      have HB : Hid (Below w.heap.size w wr) := hbel
      clear hc hok hbel
      go_wp2_with fail
      rw [Exit.noGoto_ret]
      go_ret
      exact ⟨by rw [HE.out]; rfl, HB.out⟩
end Go.Proofs.YthicmbjiblbcmaaGreat

/- The contracts of grain's fault, Step, Bucket, Expired and End. -/
namespace Go.Proofs.YthicmbjiblbcmaaGreat
open Go.RowKit

theorem Lies.at {R : Rl} {N : Nat} {w w' : World} (h : Lies R N w) (hb : Below N w w') : Lies R w'.heap.size w' := by
  obtain ⟨h0, h1, h2⟩ := h.below hb (Nat.le_refl _)
  refine ⟨h0, Nat.le_refl _, ?_⟩
  rcases h2 with h | ⟨b, off, ha, hbN, hc⟩
  · exact .inl h
  · exact .inr ⟨b, off, ha, by omega, hc⟩
theorem new_below (w : World) (o : Obj) : Below w.heap.size w (w.alloc o) := (Below.refl _ _).alloc (Nat.le_refl _) o

/-- What is wrong with rules, a time and a watermark. -/
def fE (R : Rl) (t w : Int) : Int := if RightP R then (if isT t && isT w then 0 else 1) else 30
theorem fE_ok {R : Rl} {t w : Int} (h : fE R t w = 0) : RightP R ∧ isT t = true ∧ isT w = true := by
  unfold fE at h
  split at h
  · rename_i hR
    split at h
    · rename_i ht
      simp at ht; exact ⟨hR, ht⟩
    · omega
  · omega
theorem fE_of {R : Rl} {t w : Int} (hR : RightP R) (ht : isT t = true) (hw : isT w = true) : fE R t w = 0 := by
  unfold fE; rw [if_pos hR, ht, hw]; rfl
set_option maxRecDepth 100000 in
set_option maxHeartbeats 1000000 in
theorem fault_any (R : Rl) (t wm : Int) (w : World) (hL : Lies R w.heap.size w) :
    Calls Tryz.prog 62 #[.agg #[.slice R.a R.len R.cap, .int .i64 R.kp], .int .i64 t, .int .i64 wm] w fun e w' => e = .returned (.int .i64 (fE R t wm)) ∧ Below w.heap.size w w' := by
  have HL : Hid (Lies R w.heap.size w) := hL
  clear hL
  unfold fE
  by_cases hR : RightP R
  · rw [if_pos hR]
    have hd : decide (RightP R) = true := by simpa using hR
    clear hR
    cases ht : isT t
    · go_enter Tryz.func62, Tryz.ntmps62
      go_wp2_with fail
      refine (right_anyG R _ (HL.out.at (new_below _ _))).mono ?_
      rw [hd]
      rintro e w1 ⟨rfl, hb1⟩
      have HB1 : Hid (Below w.heap.size w w1) := (new_below _ _).trans (hb1.mono (by simp))
      clear hb1 hd
      go_wp2_with fail
      refine (isTime_any t _).mono ?_
      rw [ht]
      rintro e w' ⟨rfl, rfl⟩
      clear ht
      go_wp2_with fail
      go_ret
      exact ⟨rfl, HB1.out⟩
    · cases hw : isT wm
      · go_enter Tryz.func62, Tryz.ntmps62
        go_wp2_with fail
        refine (right_anyG R _ (HL.out.at (new_below _ _))).mono ?_
        rw [hd]
        rintro e w1 ⟨rfl, hb1⟩
        have HB1 : Hid (Below w.heap.size w w1) := (new_below _ _).trans (hb1.mono (by simp))
        clear hb1 hd
        go_wp2_with fail
        refine (isTime_any t _).mono ?_
        rw [ht]
        rintro e w' ⟨rfl, rfl⟩
        clear ht
        go_wp2_with fail
        refine (isTime_any wm _).mono ?_
        rw [hw]
        rintro e w' ⟨rfl, rfl⟩
        clear hw
        go_wp2_with fail
        go_ret
        exact ⟨rfl, HB1.out⟩
      · go_enter Tryz.func62, Tryz.ntmps62
        go_wp2_with fail
        refine (right_anyG R _ (HL.out.at (new_below _ _))).mono ?_
        rw [hd]
        rintro e w1 ⟨rfl, hb1⟩
        have HB1 : Hid (Below w.heap.size w w1) := (new_below _ _).trans (hb1.mono (by simp))
        clear hb1 hd
        go_wp2_with fail
        refine (isTime_any t _).mono ?_
        rw [ht]
        rintro e w' ⟨rfl, rfl⟩
        clear ht
        go_wp2_with fail
        refine (isTime_any wm _).mono ?_
        rw [hw]
        rintro e w' ⟨rfl, rfl⟩
        clear hw
        go_wp2_with fail
        go_ret
        exact ⟨rfl, HB1.out⟩
  · rw [if_neg hR]
    have hd : decide (RightP R) = false := by simpa using hR
    clear hR
    go_enter Tryz.func62, Tryz.ntmps62
    go_wp2_with fail
    refine (right_anyG R _ (HL.out.at (new_below _ _))).mono ?_
    rw [hd]
    rintro e w1 ⟨rfl, hb1⟩
    have HB1 : Hid (Below w.heap.size w w1) := (new_below _ _).trans (hb1.mono (by simp))
    clear hb1 hd
    go_wp2_with fail
    go_ret
    exact ⟨rfl, HB1.out⟩

/-- What Step tells. -/
def stA (R : Rl) (t w : Int) (K : Nat) : Int := if fE R t w = 0 then (K : Int) else 0
set_option maxRecDepth 100000 in
set_option maxHeartbeats 1000000 in
theorem step_any (R : Rl) (t wm : Int) (K : Nat) (hK : fE R t wm = 0 → IsStep R t wm K) (w : World) (hL : Lies R w.heap.size w) :
    Calls Tryz.prog 37 #[.agg #[.slice R.a R.len R.cap, .int .i64 R.kp], .int .i64 t, .int .i64 wm] w fun e w' => e = .returned (.tuple #[.int .i64 (stA R t wm K), .int .i64 (fE R t wm)]) ∧ Below w.heap.size w w' := by
  have HL : Hid (Lies R w.heap.size w) := hL
  clear hL
  unfold stA
  by_cases h0 : fE R t wm = 0
  · rw [if_pos h0, h0]
    have HK : Hid (IsStep R t wm K) := hK h0
    have HF : Hid (RightP R ∧ isT t = true ∧ isT wm = true) := fE_ok h0
    clear hK
    have H0 : Hid _ := h0
    clear h0
    go_enter Tryz.func37, Tryz.ntmps37
    go_wp2_with fail
    refine (fault_any R t wm _ (HL.out.at (new_below _ _))).mono ?_
    rw [H0.out]
    rintro e w1 ⟨rfl, hb1⟩
    have HB1 : Hid (Below w.heap.size w w1) := (new_below _ _).trans (hb1.mono (by simp))
    obtain ⟨_, c0, c1⟩ := (RBox.new R w _).below hb1
    clear hb1
    go_wp2_with fail
    refine (stepAt_any R HF.out.1 t wm HF.out.2.1 HF.out.2.2 K HK.out _ (HL.out.at HB1.out)).mono ?_
    rintro e w2 ⟨rfl, hb2⟩
    have HB2 : Hid (Below w.heap.size w w2) := HB1.out.trans (hb2.mono HB1.out.size)
    clear hb2 c0 c1
    go_wp2_with fail
    go_ret2
    exact ⟨rfl, HB2.out⟩
  · rw [if_neg h0]
    have hne : (fE R t wm == 0) = false := by simpa using h0
    have hne2 : (fE R t wm != 0) = true := by simpa using h0
    clear hK h0
    go_enter Tryz.func37, Tryz.ntmps37
    go_wp2_with fail
    refine (fault_any R t wm _ (HL.out.at (new_below _ _))).mono ?_
    rintro e w1 ⟨rfl, hb1⟩
    have HB1 : Hid (Below w.heap.size w w1) := (new_below _ _).trans (hb1.mono (by simp))
    clear hb1
    go_wp2_with fail
    go_ret2
    exact ⟨rfl, HB1.out⟩

theorem row_cells {R : Rl} {w : World} (hR : RightP R) (hL : Lies R w.heap.size w) {k : Nat} (hk : k < R.len) : ∃ b off, R.a = some ⟨b, off, none⟩ ∧ w.cell? ⟨b, off + k * 2, none⟩ = some (.int .i64 (R.sz k)) ∧ w.cell? ⟨b, off + k * 2 + 1, none⟩ = some (.int .i64 (R.ag k)) := by
  obtain ⟨_, _, hc⟩ := hL
  rcases hc with hc | ⟨b, off, ha, _, hc⟩
  · have := hR.1; omega
  · exact ⟨b, off, ha, (hc k hk).1, (hc k hk).2⟩

/-- Whether Expired tells that it is. -/
def exA (R : Rl) (t w : Int) : Bool := if fE R t w = 0 then decide (endF t (R.sz (R.len - 1)) ≤ w - R.kp) else false
set_option maxRecDepth 100000 in
set_option maxHeartbeats 1000000 in
theorem expired_any (R : Rl) (t wm : Int) (w : World) (hL : Lies R w.heap.size w) :
    Calls Tryz.prog 39 #[.agg #[.slice R.a R.len R.cap, .int .i64 R.kp], .int .i64 t, .int .i64 wm] w fun e w' => e = .returned (.tuple #[.bool (exA R t wm), .int .i64 (fE R t wm)]) ∧ Below w.heap.size w w' := by
  have HL : Hid (Lies R w.heap.size w) := hL
  clear hL
  unfold exA
  by_cases h0 : fE R t wm = 0
  · rw [if_pos h0, h0]
    have HF : Hid (RightP R ∧ isT t = true ∧ isT wm = true) := fE_ok h0
    have H0 : Hid (fE R t wm = 0) := h0
    clear h0
    obtain ⟨m, hm⟩ : ∃ m, R.len = m + 1 := ⟨R.len - 1, by have := HF.out.1.1; omega⟩
    have em : R.len - 1 = m := by omega
    rw [em]
    have hle := HF.out.1.2.1
    have hkp1 := HF.out.1.2.2.2.2.1
    have hkp2 := HF.out.1.2.2.2.2.2
    have hag := (isT_iff _).1 (ag_ok HF.out.1 (i := R.len - 1) (by omega))
    have hwm := (isT_iff _).1 HF.out.2.2
    have hwk : IntKind.i64.wrap (wm - R.kp) = wm - R.kp := by rw [IntKind.wrap_i64]; omega
    have hwl : IntKind.i64.wrap ((R.len : Int) - 1) = (m : Int) := by rw [IntKind.wrap_i64]; omega
    have i0 : (0 : Int) ≤ (m : Int) := by omega
    have i1 : (m : Int) < (R.len : Int) := by omega
    have HM : Hid (m < R.len) := by unfold Hid; omega
    clear hkp1 hkp2 hag hwm hm em hle
    go_enter Tryz.func39, Tryz.ntmps39
    go_wp2_with fail
    refine (fault_any R t wm _ (HL.out.at (new_below _ _))).mono ?_
    rw [H0.out]
    rintro e w1 ⟨rfl, hb1⟩
    have HB1 : Hid (Below w.heap.size w w1) := (new_below _ _).trans (hb1.mono (by simp))
    have HX1 : Hid (RBox R w.heap.size w1) := (RBox.new R w _).below hb1
    have HL1 : Hid (Lies R w1.heap.size w1) := HL.out.at HB1.out
    obtain ⟨_, c0, c1⟩ := HX1.out
    obtain ⟨b, off, ha, d0, d1⟩ := row_cells HF.out.1 HL1.out HM.out
    rw [ha] at c0
    clear hb1
    go_wp2_with fail
    have HBa : Hid (Below w.heap.size w (w1.alloc (.cells #[.int .i64 (R.sz m), .int .i64 (R.ag m)] 81))) := HB1.out.alloc HB1.out.size _
    have c1' : (w1.alloc (.cells #[.int .i64 (R.sz m), .int .i64 (R.ag m)] 81)).cell? ⟨w.heap.size, 1, none⟩ = some (.int .i64 R.kp) := ((new_below w1 _).cell (p := ⟨w.heap.size, 1, none⟩) HX1.out.1).trans c1
    go_region_held3 (fun w' => w'.cell? ⟨w1.heap.size, 0, none⟩ = some (.int .i64 (R.sz m)) ∧ w'.cell? ⟨w.heap.size, 1, none⟩ = some (.int .i64 R.kp) ∧ Below w.heap.size w w') (first | exact ⟨by simp [go_sem], c1', HBa.out.drew⟩ | assumption) (first | (go_at_call 67; refine (end_any t (R.sz m) HF.out.2.1 (sz_ok HF.out.1 HM.out) _).mono ?_; rintro e w' ⟨rfl, rfl⟩))
    rename_i HZ
    clear c0 c1 c1' d0 d1
    go_wp2_with fail
    go_ret2
    exact ⟨rfl, HZ.2.2⟩
  · rw [if_neg h0]
    have hne : (fE R t wm == 0) = false := by simpa using h0
    have hne2 : (fE R t wm != 0) = true := by simpa using h0
    clear h0
    go_enter Tryz.func39, Tryz.ntmps39
    go_wp2_with fail
    refine (fault_any R t wm _ (HL.out.at (new_below _ _))).mono ?_
    rintro e w1 ⟨rfl, hb1⟩
    have HB1 : Hid (Below w.heap.size w w1) := (new_below _ _).trans (hb1.mono (by simp))
    clear hb1
    go_wp2_with fail
    go_ret2
    exact ⟨rfl, HB1.out⟩

end Go.Proofs.YthicmbjiblbcmaaGreat

/- What the fixed calls of layer 3's 'alive' come to: true. -/
namespace Go.Proofs.YthicmbjiblbcmaaGreat
open Go.RowKit

end Go.Proofs.YthicmbjiblbcmaaGreat

/- Plain arithmetic: times of one bucket. -/
namespace Go.Proofs.YthicmbjiblbcmaaGreat
open Go.RowKit

theorem fl_eq (t s : Int) : t - t % s = s * (t / s) := by have := Int.emod_add_mul_ediv t s; omega
theorem endF_quot (t s : Int) : endF t s = s * (t / s) + s := by unfold endF; rw [fl_eq]
theorem quot_up {t u s S : Int} (h1 : 1 ≤ s) (hd : S % s = 0) (h : t / s = u / s) : t / S = u / S := by
  obtain ⟨c, hc⟩ := Int.dvd_of_emod_eq_zero hd
  rw [hc, ← Int.ediv_ediv_of_nonneg (by omega), ← Int.ediv_ediv_of_nonneg (by omega), h]
theorem quot_all {R : Rl} (hR : RightP R) {t u : Int} {K : Nat} (h : t / R.sz K = u / R.sz K) : ∀ d, K + d < R.len → t / R.sz (K + d) = u / R.sz (K + d) := by
  intro d
  induction d with
  | zero => intro _; exact h
  | succ d ih =>
    intro hd
    obtain ⟨f1, f2, f3, _⟩ := fol_facts hR (j := K + d) (by omega)
    exact quot_up f1 f3 (ih (by omega))
theorem quot_ge {R : Rl} (hR : RightP R) {t u : Int} {K : Nat} (h : t / R.sz K = u / R.sz K) {j : Nat} (hj : K ≤ j) (hl : j < R.len) : t / R.sz j = u / R.sz j := by
  have := quot_all hR h (j - K) (by omega)
  rw [show K + (j - K) = j by omega] at this
  exact this
theorem end_same {R : Rl} (hR : RightP R) {t u : Int} {K : Nat} (h : t / R.sz K = u / R.sz K) {j : Nat} (hj : K ≤ j) (hl : j < R.len) : endF t (R.sz j) = endF u (R.sz j) := by
  rw [endF_quot, endF_quot, quot_ge hR h hj hl]
theorem step_same {R : Rl} (hR : RightP R) {t u w : Int} {K : Nat} (hK : IsStep R t w K) (h : t / R.sz K = u / R.sz K) : IsStep R u w K := by
  refine ⟨hK.1, ?_, fun j h1 h2 hc => hK.2.2 j h1 h2 ?_⟩
  · rcases hK.2.1 with h0 | h0
    · exact .inl h0
    · right; unfold cnd at *; rw [← end_same hR h (Nat.le_refl _) hK.1]; exact h0
  · unfold cnd at *; rw [end_same hR h (by omega) h2]; exact hc
theorem in_bucket {t s y : Int} (h1 : 1 ≤ s) (y1 : 0 ≤ y) (y2 : y < s) : (t - t % s + y) / s = t / s := by
  rw [fl_eq, Int.mul_comm, Int.add_comm, Int.add_mul_ediv_right _ _ (by omega), Int.ediv_eq_zero_of_lt y1 y2]; omega
theorem fl_same {t u s : Int} (h : t / s = u / s) : t - t % s = u - u % s := by rw [fl_eq, fl_eq, h]
end Go.Proofs.YthicmbjiblbcmaaGreat
