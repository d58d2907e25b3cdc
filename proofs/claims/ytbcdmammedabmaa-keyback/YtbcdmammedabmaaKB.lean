/- The walk of KeyBack. -/
import Derived.Test.YtbcdmammedabmaaKBm
namespace Go.Proofs.Ytbcdmammedabmaa
open Go.RowKit Go.Joins

set_option maxRecDepth 100000 in
set_option maxHeartbeats 2000000 in
theorem back_walk (k : Ky) (vb : Value) (l : List UInt8) (w : World) (hk : KLies k w) (hb : Reads w vb l) :
    Calls Try.prog 6 #[k.val, vb] w fun e w' => e = .returned (.bool true) ∧ Below w.heap.size w w' := by
  obtain ⟨a1, c1, hv1, _⟩ := hk.r.form
  obtain ⟨ab, cb, rfl, hlm⟩ := hb.form
  unfold maxLen at hlm
  obtain ⟨v, L, f, g⟩ := k
  simp only at hv1
  subst hv1
  have HKA : Hid (KLies ⟨.slice a1 L.length c1, L, f, g⟩ w) := hk
  have HRB : Hid (Reads w (.slice ab l.length cb) l) := hb
  clear hk hb
  unfold Ky.val
  simp only
  obtain ⟨W, HW⟩ := hid_ex (w.alloc (.cells #[.slice a1 L.length c1, .int .i64 f, .int .i64 g] 24))
  have HX : Hid (Below (w.heap.size + 1) (w.alloc (.cells #[.slice a1 L.length c1, .int .i64 f, .int .i64 g] 24)) W) := by rw [HW.out]; exact Below.refl _ _
  have HZ : Hid (w.heap.size + 1 ≤ W.heap.size) := by have := HX.out.size; unfold Hid; simpa using this
  obtain ⟨k0, k1, k2⟩ := kbox HX.out
  go_enter Try.func6, Try.ntmps6
  go_wp2_with fail
  rw [← HW.out]
  refine (long_any _ L _ (HKA.out.below (box_below HX.out)).r).mono ?_
  rintro e w1 ⟨rfl, hw⟩
  subst w1
  clear HW
  cases hl : longB L with
  | true =>
    clear hl
    go_wp2_with fail
    refine (alive_any _).mono ?_
    rintro e wz ⟨rfl, hbz⟩
    have HBz : Hid (Below w.heap.size w wz) := box_below (HX.out.trans (hbz.mono HZ.out))
    clear hbz k0 k1 k2
    go_wp2_with fail
    go_ret
    exact ⟨rfl, HBz.out⟩
  | false =>
    clear hl
    by_cases h1000 : (1000 : Int) < (l.length : Int)
    · go_wp2_with fail
      refine (alive_any _).mono ?_
      rintro e wz ⟨rfl, hbz⟩
      have HBz : Hid (Below w.heap.size w wz) := box_below (HX.out.trans (hbz.mono HZ.out))
      clear hbz k0 k1 k2
      go_wp2_with fail
      go_ret
      exact ⟨rfl, HBz.out⟩
    · have HLL : Hid (l.length ≤ 1000) := by unfold Hid; omega
      cases hrt : rightB L f g with
      | true =>
        have HRT : Hid (rightB L f g = true) := hrt
        clear hrt
        go_wp2_with fail
        refine (write_yes ⟨.slice a1 L.length c1, L, f, g⟩ HRT.out _ (HKA.out.below (box_below HX.out))).mono ?_
        rintro e w2 ⟨x, rfl, HO2, hb2⟩
        have HX2 : Hid (Below (w.heap.size + 1) (w.alloc (.cells #[.slice a1 L.length c1, .int .i64 f, .int .i64 g] 24)) w2) := HX.out.trans (hb2.mono HZ.out)
        have HS2 : Hid (w.heap.size + 1 ≤ w2.heap.size) := Nat.le_trans HZ.out hb2.size
        have HRX2 : Hid (Reads w2 x (kb L f g)) := HO2.reads
        clear hb2 HX HZ HO2 k0 k1 k2
        obtain ⟨k0, k1, k2⟩ := kbox HX2.out
        go_wp2_with fail
        refine (right_any ⟨.slice a1 L.length c1, L, f, g⟩ _ (HKA.out.below (box_below HX2.out))).mono ?_
        simp only
        rw [HRT.out]
        rintro e w3 ⟨rfl, hb3⟩
        have HX3 : Hid (Below (w.heap.size + 1) (w.alloc (.cells #[.slice a1 L.length c1, .int .i64 f, .int .i64 g] 24)) w3) := HX2.out.trans (hb3.mono HS2.out)
        have HS3 : Hid (w.heap.size + 1 ≤ w3.heap.size) := Nat.le_trans HS2.out hb3.size
        have HRX3 : Hid (Reads w3 x (kb L f g)) := HRX2.out.below hb3
        clear hb3 HX2 HS2 HRX2 k0 k1 k2
        have HKL : Hid ((kb L f g).length ≤ 1000) := by
          obtain ⟨m1, m2⟩ := mayB_iff.1 (right_facts HRT.out).1
          have := jb_len L m2
          unfold Hid
          rw [kb_len]; unfold jn; simp; omega
        go_wp2_with fail
        refine (read_any _ (kb L f g) HKL.out _ HRX3.out).mono ?_
        rw [rdF_kb L f g HRT.out]
        rintro e w4 (⟨D, F, G, vd, hrd, rfl, HK4, hb4⟩ | ⟨hrd, _⟩)
        · simp only [Option.some.injEq, Prod.mk.injEq] at hrd
          obtain ⟨rfl, rfl, rfl⟩ := hrd
          have HX4 : Hid (Below (w.heap.size + 1) (w.alloc (.cells #[.slice a1 L.length c1, .int .i64 f, .int .i64 g] 24)) w4) := HX3.out.trans (hb4.mono HS3.out)
          have HS4 : Hid (w.heap.size + 1 ≤ w4.heap.size) := Nat.le_trans HS3.out hb4.size
          obtain ⟨ad, cd, hvd, _⟩ := HK4.r.form
          simp only at hvd
          subst hvd
          have HXa : Hid (Below (w.heap.size + 1) (w.alloc (.cells #[.slice a1 L.length c1, .int .i64 f, .int .i64 g] 24)) (w4.alloc (.cells #[.slice ad L.length cd, .int .i64 f, .int .i64 g] 24))) := HX4.out.alloc HS4.out _
          have HKa : KLies ⟨.slice ad L.length cd, L, f, g⟩ (w4.alloc (.cells #[.slice ad L.length cd, .int .i64 f, .int .i64 g] 24)) := HK4.below ((Below.refl _ _).alloc (Nat.le_refl _) _)
          have HSa : Hid (w.heap.size + 1 ≤ (w4.alloc (.cells #[.slice ad L.length cd, .int .i64 f, .int .i64 g] 24)).heap.size) := by have := HS4.out; unfold Hid; simp; omega
          have HSM : Hid (sameK ⟨.slice ad L.length cd, L, f, g⟩ ⟨.slice a1 L.length c1, L, f, g⟩ = true) := by unfold Hid sameK; rw [decide_eq_true_iff]; exact ⟨(cmpL_zero _ _).2 rfl, rfl, rfl⟩
          obtain ⟨k0, k1, k2⟩ := kbox HX4.out
          obtain ⟨k3, k4, k5⟩ := kbox HXa.out
          have hne : ¬ w.heap.size = w4.heap.size := by have := HS4.out; omega
          clear hb4 HX3 HS3 HRX3 HK4
          go_wp2_with fail
          refine (same_any ⟨.slice ad L.length cd, L, f, g⟩ ⟨.slice a1 L.length c1, L, f, g⟩ _ HKa (HKA.out.below (box_below HXa.out))).mono ?_
          rw [HSM.out]
          rintro e wt ⟨rfl, hbt⟩
          have HXt : Hid (Below (w.heap.size + 1) (w.alloc (.cells #[.slice a1 L.length c1, .int .i64 f, .int .i64 g] 24)) wt) := HXa.out.trans (hbt.mono HSa.out)
          have HSt : Hid (w.heap.size + 1 ≤ wt.heap.size) := Nat.le_trans HSa.out hbt.size
          clear hbt HXa HKa HSa HX4 HS4 k0 k1 k2 k3 k4 k5 hne
          go_wp2_with fail
          refine (read_any _ l HLL.out _ (HRB.out.below (box_below HXt.out))).mono ?_
          rintro e w5 (⟨D, F, G, vd, hrd, rfl, HK5, hb5⟩ | ⟨hrd, rfl, hb5⟩)
          · have HX5 : Hid (Below w.heap.size w w5) := (box_below HXt.out).trans (hb5.mono (Nat.le_trans (Nat.le_succ _) HSt.out))
            obtain ⟨ad, cd, hvd, _⟩ := HK5.r.form
            simp only at hvd
            subst hvd
            obtain ⟨hrt, hkb⟩ := rdF_taken hrd
            have HRT : Hid (rightB D F G = true) := hrt
            have HKB : Hid (kb D F G = l) := hkb
            have HX6 : Hid (Below w.heap.size w (w5.alloc (.cells #[.slice ad D.length cd, .int .i64 F, .int .i64 G] 24))) := HX5.out.alloc HX5.out.size _
            have HK6 : KLies ⟨.slice ad D.length cd, D, F, G⟩ (w5.alloc (.cells #[.slice ad D.length cd, .int .i64 F, .int .i64 G] 24)) := HK5.below ((Below.refl _ _).alloc (Nat.le_refl _) _)
            clear hb5 hrd hrt hkb HK5
            go_wp2_with fail
            refine (write_yes ⟨.slice ad D.length cd, D, F, G⟩ HRT.out _ HK6).mono ?_
            rintro e w7 ⟨y, rfl, HO7, hb7⟩
            have HX7 : Hid (Below w.heap.size w w7) := HX6.out.trans (hb7.mono HX6.out.size)
            have HR7 : Hid (Reads w7 y l) := by have := HO7.reads; simp only at this; rw [HKB.out] at this; exact this
            clear hb7 HO7 HK6
            go_wp2_with fail
            refine (alive_any _).mono ?_
            rintro e w8 ⟨rfl, hb8⟩
            have HX8 : Hid (Below w.heap.size w w8) := HX7.out.trans (hb8.mono HX7.out.size)
            have hcy := reads_text (HR7.out.below hb8)
            have hcb := reads_text (HRB.out.below HX8.out)
            clear hb8
            go_wp2_with fail
            go_ret
            exact ⟨rfl, HX8.out⟩
          · have HX5 : Hid (Below w.heap.size w w5) := (box_below HXt.out).trans (hb5.mono (Nat.le_trans (Nat.le_succ _) HSt.out))
            have HX6 : Hid (Below w.heap.size w (w5.alloc (.cells #[.slice none 0 0, .int .i64 0, .int .i64 0] 24))) := HX5.out.alloc HX5.out.size _
            have HK6 : KLies ⟨.slice none 0 0, [], 0, 0⟩ (w5.alloc (.cells #[.slice none 0 0, .int .i64 0, .int .i64 0] 24)) := ⟨.inl ⟨rfl, _, _, rfl, fun _ => rfl⟩, by simp, by simp, by simp, by simp⟩
            have HRT : Hid (rightB [] 0 0 = true) := by unfold Hid; decide
            clear hb5 hrd
            go_wp2_with fail
            refine (write_yes ⟨.slice none 0 0, [], 0, 0⟩ HRT.out _ HK6).mono ?_
            rintro e w7 ⟨y, rfl, _, hb7⟩
            have HX7 : Hid (Below w.heap.size w w7) := HX6.out.trans (hb7.mono HX6.out.size)
            clear hb7 HK6
            go_wp2_with fail
            refine (alive_any _).mono ?_
            rintro e w8 ⟨rfl, hb8⟩
            have HX8 : Hid (Below w.heap.size w w8) := HX7.out.trans (hb8.mono HX7.out.size)
            clear hb8
            go_wp2_with fail
            go_ret
            exact ⟨rfl, HX8.out⟩
        · simp at hrd
      | false =>
        have HRT : Hid (rightB L f g = false) := hrt
        clear hrt
        go_wp2_with fail
        refine (write_no ⟨.slice a1 L.length c1, L, f, g⟩ HRT.out _ (HKA.out.below (box_below HX.out))).mono ?_
        rintro e w2 ⟨rfl, hb2⟩
        have HX2 : Hid (Below (w.heap.size + 1) (w.alloc (.cells #[.slice a1 L.length c1, .int .i64 f, .int .i64 g] 24)) w2) := HX.out.trans (hb2.mono HZ.out)
        have HS2 : Hid (w.heap.size + 1 ≤ w2.heap.size) := Nat.le_trans HZ.out hb2.size
        clear hb2 HX HZ k0 k1 k2
        obtain ⟨k0, k1, k2⟩ := kbox HX2.out
        go_wp2_with fail
        refine (right_any ⟨.slice a1 L.length c1, L, f, g⟩ _ (HKA.out.below (box_below HX2.out))).mono ?_
        simp only
        rw [HRT.out]
        rintro e wt ⟨rfl, hbt⟩
        have HXt : Hid (Below (w.heap.size + 1) (w.alloc (.cells #[.slice a1 L.length c1, .int .i64 f, .int .i64 g] 24)) wt) := HX2.out.trans (hbt.mono HS2.out)
        have HSt : Hid (w.heap.size + 1 ≤ wt.heap.size) := Nat.le_trans HS2.out hbt.size
        clear hbt HX2 HS2 k0 k1 k2
        go_wp2_with fail
        refine (read_any _ l HLL.out _ (HRB.out.below (box_below HXt.out))).mono ?_
        rintro e w5 (⟨D, F, G, vd, hrd, rfl, HK5, hb5⟩ | ⟨hrd, rfl, hb5⟩)
        · have HX5 : Hid (Below w.heap.size w w5) := (box_below HXt.out).trans (hb5.mono (Nat.le_trans (Nat.le_succ _) HSt.out))
          obtain ⟨ad, cd, hvd, _⟩ := HK5.r.form
          simp only at hvd
          subst hvd
          obtain ⟨hrt, hkb⟩ := rdF_taken hrd
          have HRT : Hid (rightB D F G = true) := hrt
          have HKB : Hid (kb D F G = l) := hkb
          have HX6 : Hid (Below w.heap.size w (w5.alloc (.cells #[.slice ad D.length cd, .int .i64 F, .int .i64 G] 24))) := HX5.out.alloc HX5.out.size _
          have HK6 : KLies ⟨.slice ad D.length cd, D, F, G⟩ (w5.alloc (.cells #[.slice ad D.length cd, .int .i64 F, .int .i64 G] 24)) := HK5.below ((Below.refl _ _).alloc (Nat.le_refl _) _)
          clear hb5 hrd hrt hkb HK5
          go_wp2_with fail
          refine (write_yes ⟨.slice ad D.length cd, D, F, G⟩ HRT.out _ HK6).mono ?_
          rintro e w7 ⟨y, rfl, HO7, hb7⟩
          have HX7 : Hid (Below w.heap.size w w7) := HX6.out.trans (hb7.mono HX6.out.size)
          have HR7 : Hid (Reads w7 y l) := by have := HO7.reads; simp only at this; rw [HKB.out] at this; exact this
          clear hb7 HO7 HK6
          go_wp2_with fail
          refine (alive_any _).mono ?_
          rintro e w8 ⟨rfl, hb8⟩
          have HX8 : Hid (Below w.heap.size w w8) := HX7.out.trans (hb8.mono HX7.out.size)
          have hcy := reads_text (HR7.out.below hb8)
          have hcb := reads_text (HRB.out.below HX8.out)
          clear hb8
          go_wp2_with fail
          go_ret
          exact ⟨rfl, HX8.out⟩
        · have HX5 : Hid (Below w.heap.size w w5) := (box_below HXt.out).trans (hb5.mono (Nat.le_trans (Nat.le_succ _) HSt.out))
          have HX6 : Hid (Below w.heap.size w (w5.alloc (.cells #[.slice none 0 0, .int .i64 0, .int .i64 0] 24))) := HX5.out.alloc HX5.out.size _
          have HK6 : KLies ⟨.slice none 0 0, [], 0, 0⟩ (w5.alloc (.cells #[.slice none 0 0, .int .i64 0, .int .i64 0] 24)) := ⟨.inl ⟨rfl, _, _, rfl, fun _ => rfl⟩, by simp, by simp, by simp, by simp⟩
          have HRT : Hid (rightB [] 0 0 = true) := by unfold Hid; decide
          clear hb5 hrd
          go_wp2_with fail
          refine (write_yes ⟨.slice none 0 0, [], 0, 0⟩ HRT.out _ HK6).mono ?_
          rintro e w7 ⟨y, rfl, _, hb7⟩
          have HX7 : Hid (Below w.heap.size w w7) := HX6.out.trans (hb7.mono HX6.out.size)
          clear hb7 HK6
          go_wp2_with fail
          refine (alive_any _).mono ?_
          rintro e w8 ⟨rfl, hb8⟩
          have HX8 : Hid (Below w.heap.size w w8) := HX7.out.trans (hb8.mono HX7.out.size)
          clear hb8
          go_wp2_with fail
          go_ret
          exact ⟨rfl, HX8.out⟩
end Go.Proofs.Ytbcdmammedabmaa
