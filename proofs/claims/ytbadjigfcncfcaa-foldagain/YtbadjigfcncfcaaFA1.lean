/- The walk of FoldAgain. -/
import Derived.Test.YtbadjigfcncfcaaJ7
namespace Go.Proofs.Ytbadjigfcncfcaa
open Go.RowKit

set_option maxRecDepth 100000 in
set_option maxHeartbeats 4000000 in
theorem again_walk (R : Rl) (wm : Int) (v : Value) (L : List En) (w : World) (hL : Lies R w.heap.size w) (hE : EReads w v L) :
    Calls Try.prog 4 #[.agg #[.slice R.a R.len R.cap, .int .i64 R.kp], .int .i64 wm, v] w fun e w' => e = .returned (.bool true) ∧ Below w.heap.size w w' := by
  have HE : Hid (EReads w v L) := hE
  have HL : Hid (Lies R w.heap.size w) := hL
  have HCN : Hid _ := hE.ok
  obtain ⟨a, cap, rfl, hm1, hm2⟩ := hE.form
  unfold maxLen at hm2
  clear hE hL
  obtain ⟨w1, HW1⟩ := hid_ex (w.alloc (.cells #[.slice R.a R.len R.cap, .int .i64 R.kp] 33))
  have HB1 : Hid (Below w.heap.size w w1) := by rw [HW1.out]; exact new_below _ _
  have HX1 : Hid (RBox R w.heap.size w1) := by rw [HW1.out]; exact RBox.new R w _
  have HLI : Hid (∀ W, Below w1.heap.size w1 W → Lies R W.heap.size W ∧ RBox R w.heap.size W ∧ Below w.heap.size w W ∧ EReads W (.slice a L.length cap) L) := fun W hW => by
    have hb := HB1.out.trans (hW.mono HB1.out.size)
    exact ⟨HL.out.at hb, HX1.out.below hW, hb, HE.out.below hb⟩
  go_enter Try.func4, Try.ntmps4
  go_wp2_with fail
  rw [← HW1.out]
  clear HW1
  refine (great15_any _ L _ (HLI.out _ (Below.refl _ _)).2.2.2).mono ?_
  rintro e w2 ⟨gg, rfl, hgg, hw2⟩
  rw [hw2]
  clear hw2 w2
  cases gg with
  | true =>
    go_wp2_with fail
    refine (alive15_any _).mono ?_
    rintro e w2 ⟨rfl, hb2⟩
    have HB2 : Hid (Below w.heap.size w w2) := HB1.out.trans (hb2.mono HB1.out.size)
    clear hb2
    go_wp2_with fail
    go_ret
    exact ⟨rfl, HB2.out⟩
  | false =>
    have HG : Hid (okRow15 L) := hgg rfl
    have hl : L.length ≤ 100000 := by have := HG.out.1; omega
    have HK : Hid (∀ x ∈ L, x.1.length ≤ 1000) := fun x hx => by have := HG.out.2 x hx; omega
    clear hgg
    obtain ⟨r0, r1⟩ := HX1.out.at
    go_wp2_with fail
    refine (fold_any R wm _ L _ (HLI.out _ (Below.refl _ _)).1 (HLI.out _ (Below.refl _ _)).2.2.2 hl HK.out).mono ?_
    rintro e w2 ⟨hb2, ⟨hne, rfl⟩ | ⟨hz, v2, rfl, hr2⟩⟩
    · have hb0 : (chkF R wm L == 0) = false := by simp [hne]
      have HB2 : Hid (Below w.heap.size w w2) := HB1.out.trans (hb2.mono HB1.out.size)
      clear hne hb2 r0 r1
      generalize chkF R wm L = rr at *
      go_wp2_with fail
      refine (alive15_any _).mono ?_
      rintro e w3 ⟨rfl, hb3⟩
      have HB3 : Hid (Below w.heap.size w w3) := HB2.out.trans (hb3.mono HB2.out.size)
      clear hb3
      go_wp2_with fail
      go_ret
      exact ⟨rfl, HB3.out⟩
    · obtain ⟨hfe, hR, hwt, hsr, hft⟩ := chkF_ok hz
      have hgd := fit_gd hft HCN.out
      have HZ : Hid (chkF R wm L = 0) := hz
      have HFA : Hid (FitL R (foldF R wm L)) := foldF_fit hR hgd hft
      have HZA : Hid (chkF R wm (foldF R wm L) = 0) := chkF_of hfe (foldF_srt _ _ _) HFA.out
      have HAA : Hid (foldF R wm (foldF R wm L) = foldF R wm L) := foldF_id (foldF_srt _ _ _) (foldF_fix hR hft)
      have HSA : Hid (stB R wm (foldF R wm L) = false) := by unfold Hid stB; rw [if_pos HZA.out]; exact staleF_of (foldF_fix hR hft)
      have HSL : Hid (stB R wm L = false → foldF R wm L = L) := fun h => by
        unfold stB at h
        rw [if_pos hz] at h
        exact foldF_id hsr (staleF_no h)
      have HFT : Hid (fitsA R (foldF R wm L) = true) := fitsA_of ⟨fun _ => .inr ⟨hR, HFA.out⟩, fun _ => rfl⟩
      have HKA : Hid (∀ x ∈ foldF R wm L, x.1.length ≤ 1000) := fun x hx => fit_short (HFA.out x hx).k
      have hla : (foldF R wm L).length ≤ 100000 := Nat.le_trans (foldF_len _ _ _) hl
      obtain ⟨A, HA⟩ := hid_ex (foldF R wm L)
      rw [← HA.out] at hr2 HZA HAA HSA HSL HFT HKA hla
      obtain ⟨xa, xc, rfl, hxl1, hxl2⟩ := hr2.form
      unfold maxLen at hxl2
      have HB2 : Hid (Below w1.heap.size w1 w2) := hb2
      have HR2 : Hid (EReads w2 (.slice xa A.length xc) A) := hr2
      obtain ⟨an, Han⟩ := hid_ex A.length
      have HAN : Hid (∀ W, EReads W (.slice xa A.length xc) A → EReads W (.slice xa an xc) A) := fun W h => by rw [Han.out]; exact h
      rw [← Han.out] at HR2 ⊢
      clear hz hb2 hr2 hfe hR hwt hsr hft hgd r0 r1 HFA
      obtain ⟨r0, r1⟩ := (HLI.out _ HB2.out).2.1.at
      go_wp2_with fail
      refine (fold_ok R wm _ A _ (HLI.out _ HB2.out).1 (by have := HR2.out; exact this) hla HKA.out HZA.out A HAA.out.symm).mono ?_
      rintro e w3 ⟨ya, yc, rfl, hr3, hb3⟩
      rw [← Han.out] at hr3 ⊢
      have HB3 : Hid (Below w1.heap.size w1 w3) := HB2.out.trans (hb3.mono HB2.out.size)
      have HRa3 : Hid (EReads w3 (.slice xa an xc) A) := HR2.out.below hb3
      have HRb3 : Hid (EReads w3 (.slice ya an yc) A) := hr3
      clear hr3 hb3 r0 r1
      obtain ⟨r0, r1⟩ := (HLI.out _ HB3.out).2.1.at
      go_wp2_with fail
      refine (stale_any R wm _ A _ (HLI.out _ HB3.out).1 HRa3.out hla HKA.out).mono ?_
      rintro e w4 ⟨rfl, hb4⟩
      rw [HSA.out, HZA.out]
      have HB4 : Hid (Below w1.heap.size w1 w4) := HB3.out.trans (hb4.mono HB3.out.size)
      have HRa4 : Hid (EReads w4 (.slice xa an xc) A) := HRa3.out.below hb4
      have HRb4 : Hid (EReads w4 (.slice ya an yc) A) := HRb3.out.below hb4
      clear hb4 r0 r1
      obtain ⟨r0, r1⟩ := (HLI.out _ HB4.out).2.1.at
      go_wp2_with fail
      refine (stale_any R wm _ L _ (HLI.out _ HB4.out).1 (HLI.out _ HB4.out).2.2.2 hl HK.out).mono ?_
      rintro e w5 ⟨rfl, hb5⟩
      rw [HZ.out]
      obtain ⟨t, Ht⟩ := hid_ex (stB R wm L)
      rw [← Ht.out] at HSL ⊢
      have HB5 : Hid (Below w1.heap.size w1 w5) := HB4.out.trans (hb5.mono HB4.out.size)
      have HRa5 : Hid (EReads w5 (.slice xa an xc) A) := HRa4.out.below hb5
      have HRb5 : Hid (EReads w5 (.slice ya an yc) A) := HRb4.out.below hb5
      clear hb5 r0 r1 Ht
      go_wp2_with fail
      refine (alive15_any _).mono ?_
      rintro e w6 ⟨rfl, hb6⟩
      have HB6 : Hid (Below w1.heap.size w1 w6) := HB5.out.trans (hb6.mono HB5.out.size)
      have HRa6 : Hid (EReads w6 (.slice xa an xc) A) := HRa5.out.below hb6
      have HRb6 : Hid (EReads w6 (.slice ya an yc) A) := HRb5.out.below hb6
      clear hb6
      go_wp2_with fail
      refine (same_true _ _ A _ HRa6.out.rd HRb6.out.rd).mono ?_
      rintro e w7 ⟨rfl, hb7⟩
      have HB7 : Hid (Below w1.heap.size w1 w7) := HB6.out.trans (hb7.mono HB6.out.size)
      have HRa7 : Hid (EReads w7 (.slice xa an xc) A) := HRa6.out.below hb7
      clear hb7
      obtain ⟨r0, r1⟩ := (HLI.out _ HB7.out).2.1.at
      go_wp2_with fail
      refine (fits_any R _ A _ (HLI.out _ HB7.out).1 HRa7.out hla HKA.out).mono ?_
      rintro e w8 ⟨rfl, hb8⟩
      rw [HFT.out]
      have HB8 : Hid (Below w1.heap.size w1 w8) := HB7.out.trans (hb8.mono HB7.out.size)
      have HRa8 : Hid (EReads w8 (.slice xa an xc) A) := HRa7.out.below hb8
      clear hb8 r0 r1
      cases t with
      | true =>
        have HBE : Hid (Below w.heap.size w w8) := (HLI.out _ HB8.out).2.2.1
        go_wp2_with fail
        go_ret
        exact ⟨rfl, HBE.out⟩
      | false =>
        have HAL : Hid (A = L) := HSL.out rfl
        have HRl : Hid (EReads w8 (.slice xa an xc) L) := by rw [← HAL.out]; exact HRa8.out
        go_wp2_with fail
        refine (same_true _ _ L _ HRl.out.rd (HLI.out _ HB8.out).2.2.2.rd).mono ?_
        rintro e w9 ⟨rfl, hb9⟩
        have HBE : Hid (Below w.heap.size w w9) := (HLI.out _ (HB8.out.trans (hb9.mono HB8.out.size))).2.2.1
        clear hb9
        go_wp2_with fail
        go_ret
        exact ⟨rfl, HBE.out⟩
end Go.Proofs.Ytbadjigfcncfcaa
