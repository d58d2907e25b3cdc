/- The contract of grain's stepAt. -/
import Derived.Test.YtfgnojmpnkjdmaaG4
import Derived.WalkMore
namespace Go.Proofs.Ytfgnojmpnkjdmaa
open Go.RowKit

set_option maxRecDepth 100000 in
set_option maxHeartbeats 1000000 in
theorem stepAt_any (R : Rl) (hR : RightP R) (t wm : Int) (ht : isT t = true) (hw : isT wm = true) (K : Nat) (hK : IsStep R t wm K) (w : World) (hL : Lies R w.heap.size w) :
    Calls Try.prog 28 #[.slice R.a R.len R.cap, .int .i64 t, .int .i64 wm] w fun e w' => e = .returned (.int .i64 K) ∧ Below w.heap.size w w' := by
  obtain ⟨hm, _, hc⟩ := hL
  rcases hc with hc | ⟨b, off, ha, hbN, hc⟩
  · exact absurd hR.1 (by omega)
  rw [ha]
  have hl4 := hR.2.1
  have HR : Hid _ := hR
  have HKS : Hid _ := hK
  have HT : Hid _ := ht
  obtain ⟨t1, t2⟩ := (isT_iff t).1 ht
  obtain ⟨w1, w2⟩ := (isT_iff wm).1 hw
  clear hR hK ht hw
  go_enter Try.func28, Try.ntmps28
  go_wp2_with fail
  go_step3
  go_wp2_with fail
  go_step3
  go_wp2_with fail
  go_loopw [7, 12] (fun f i wr => ∃ k : Nat, k ≤ R.len ∧ f = .int .i64 ((k - 1 : Nat) : Int) ∧ i = .int .i64 k ∧ (∀ j, j < k → cnd R t wm j) ∧ Below w.heap.size w wr) (fun _ i _ => R.len - (intOf i).toNat)
  case atStart =>
    exact ⟨0, by omega, rfl, rfl, fun j hj => by omega, Below.refl _ _⟩
  case round =>
    obtain ⟨k, hk, rfl, rfl, hok, hbel⟩ := hrel
    by_cases hlt : k < R.len
    · have q0 : wr.cell? ⟨b, off + k * 2, none⟩ = some (.int .i64 (R.sz k)) := (hbel.cell (p := ⟨b, off + k * 2, none⟩) hbN).trans (hc k hlt).1
      have q1 : wr.cell? ⟨b, off + k * 2 + 1, none⟩ = some (.int .i64 (R.ag k)) := (hbel.cell (p := ⟨b, off + k * 2 + 1, none⟩) hbN).trans (hc k hlt).2
      have hki : ((k : Int) < (R.len : Int)) := by omega
      have HS : Hid _ := sz_ok HR.out hlt
      have hag := (isT_iff _).1 (ag_ok HR.out hlt)
      have HB : Hid (Below w.heap.size w wr) := hbel
      have HO : Hid (∀ j, j < k → cnd R t wm j) := hok
      have hsz := hbel.size
      have hwr : IntKind.i64.wrap (wm - R.ag k) = wm - R.ag k := by rw [IntKind.wrap_i64]; omega
      clear hbel hc hok hag
      by_cases hcn : cnd R t wm k
      · have hd : decide (endF t (R.sz k) ≤ wm - R.ag k) = true := by simpa [cnd] using hcn
        have HCN : Hid _ := hcn
        clear hcn
        go_wp2_with fail
        go_region_held3 (fun w' => w'.cell? ⟨wr.heap.size, 0, none⟩ = some (.int .i64 (R.sz k)) ∧ w'.cell? ⟨wr.heap.size, 1, none⟩ = some (.int .i64 (R.ag k)) ∧ Below w.heap.size w w') (first | exact ⟨by simp [go_sem], by simp [go_sem], (HB.out.alloc hsz _).drew⟩ | assumption) (first | (go_at_call 30; refine (end_any t (R.sz k) HT.out HS.out _).mono ?_; rintro e w' ⟨rfl, rfl⟩))
        rename_i HZ
        go_wp2_with fail
        go_roundw
        case rel =>
          refine ⟨k + 1, by omega, by simp, by go_num, fun j hj => ?_, HZ.2.2⟩
          rcases Nat.lt_or_ge j k with h | h
          · exact HO.out j h
          · have : j = k := by omega
            subst this; exact HCN.out
        case measure => simp [intOf]; omega
      · have hd : decide (endF t (R.sz k) ≤ wm - R.ag k) = false := by simpa [cnd] using hcn
        have HE : Hid (k - 1 = K) := (isStep_break HR.out HT.out hlt HO.out hcn).uniq HKS.out
        clear hcn
        go_wp2_with fail
        go_region_held3 (fun w' => w'.cell? ⟨wr.heap.size, 0, none⟩ = some (.int .i64 (R.sz k)) ∧ w'.cell? ⟨wr.heap.size, 1, none⟩ = some (.int .i64 (R.ag k)) ∧ Below w.heap.size w w') (first | exact ⟨by simp [go_sem], by simp [go_sem], (HB.out.alloc hsz _).drew⟩ | assumption) (first | (go_at_call 30; refine (end_any t (R.sz k) HT.out HS.out _).mono ?_; rintro e w' ⟨rfl, rfl⟩))
        rename_i HZ
        go_wp2_with fail
        rw [Exit.noGoto_ret]
        go_ret
        exact ⟨by rw [HE.out]; rfl, HZ.2.2⟩
    · have hke : k = R.len := by omega
      subst hke
      have HE : Hid (R.len - 1 = K) := (isStep_all HR.out hok).uniq HKS.out
      have HB : Hid (Below w.heap.size w wr) := hbel
      clear hc hok hbel
      go_wp2_with fail
      rw [Exit.noGoto_ret]
      go_ret
      exact ⟨by rw [HE.out]; rfl, HB.out⟩
end Go.Proofs.Ytfgnojmpnkjdmaa
