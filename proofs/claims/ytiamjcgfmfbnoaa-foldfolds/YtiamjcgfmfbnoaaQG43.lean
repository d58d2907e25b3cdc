/- RQ6, joined. -/
import Derived.Test.YtiamjcgfmfbnoaaQG20
import Derived.Test.YtiamjcgfmfbnoaaQG38
import Derived.Test.YtiamjcgfmfbnoaaQG42
/- The walk of FoldFolds. -/
namespace Go.Proofs.Ytiamjcgfmfbnoaa
open Go.RowKit

/-- What Fold tells, in one word. -/
noncomputable def foQ (R : Rl) (wm : Int) (L : List En) : List En := if chkF R wm L = 0 then foldF R wm L else []
theorem FoPost.uni {R : Rl} {wm : Int} {L : List En} {w w' : World} {e : Ending} (h : FoPost R wm L w e w') : ∃ a n cap, e = .returned (.tuple #[.slice a n cap, .int .i64 (chkF R wm L)]) ∧ ERd w' (.slice a n cap) (foQ R wm L) ∧ Below w.heap.size w w' := by
  obtain ⟨hb, ⟨hne, rfl⟩ | ⟨hz, l, rfl, hr⟩⟩ := h
  · refine ⟨none, 0, 0, rfl, ?_, hb⟩
    unfold foQ
    rw [if_neg hne]
    exact EReads.rd ⟨none, 0, rfl, by simp, by simp, .inl rfl⟩
  · unfold foQ
    rw [if_pos hz, hz]
    obtain ⟨a, cap, rfl, _⟩ := hr.form
    exact ⟨a, _, cap, rfl, hr.rd, hb⟩
set_option maxRecDepth 100000 in
set_option maxHeartbeats 4000000 in
theorem folds_walk (R : Rl) (wm : Int) (v : Value) (L : List En) (w : World) (hL : Lies R w.heap.size w) (hE : EReads w v L) :
    Calls Try.prog 3 #[.agg #[.slice R.a R.len R.cap, .int .i64 R.kp], .int .i64 wm, v] w fun e w' => e = .returned (.bool true) ∧ Below w.heap.size w w' := by
  have HE : Hid (EReads w v L) := hE
  have HL : Hid (Lies R w.heap.size w) := hL
  obtain ⟨a, cap, rfl, hm1, hm2⟩ := hE.form
  unfold maxLen at hm2
  clear hE hL
  obtain ⟨w1, HW1⟩ := hid_ex (w.alloc (.cells #[.slice R.a R.len R.cap, .int .i64 R.kp] 24))
  have HB1 : Hid (Below w.heap.size w w1) := by rw [HW1.out]; exact new_below _ _
  have HX1 : Hid (RBox R w.heap.size w1) := by rw [HW1.out]; exact RBox.new R w _
  have HLI : Hid (∀ W, Below w1.heap.size w1 W → Lies R W.heap.size W ∧ RBox R w.heap.size W ∧ Below w.heap.size w W ∧ EReads W (.slice a L.length cap) L) := fun W hW => by
    have hb := HB1.out.trans (hW.mono HB1.out.size)
    exact ⟨HL.out.at hb, HX1.out.below hW, hb, HE.out.below hb⟩
  go_enter Try.func3, Try.ntmps3
  go_wp2_with fail
  rw [← HW1.out]
  clear HW1
  refine (great15_any _ L _ (HLI.out _ (Below.refl _ _)).2.2.2).mono ?_
  rintro e w2 ⟨gg, rfl, hgg, hw2⟩
  rw [hw2]
  clear hw2 w2
  cases gg with
  | true =>
    go_wp2_with fail
    refine (alive15_any _).mono ?_
    rintro e w2 ⟨rfl, hb2⟩
    have HB2 : Hid (Below w.heap.size w w2) := HB1.out.trans (hb2.mono HB1.out.size)
    clear hb2 hgg
    go_wp2_with fail
    go_ret
    exact ⟨rfl, HB2.out⟩
  | false =>
    have hl : L.length ≤ 100000 := by have := (hgg rfl).1; omega
    have HK : Hid (∀ x ∈ L, x.1.length ≤ 1000) := fun x hx => by have := (hgg rfl).2 x hx; omega
    clear hgg
    obtain ⟨E, HEE⟩ := hid_ex (chkF R wm L)
    obtain ⟨A, HA⟩ := hid_ex (foQ R wm L)
    obtain ⟨st, Hst⟩ := hid_ex (stB R wm L)
    obtain ⟨fa, Hfa⟩ := hid_ex (fitsA R L)
    obtain ⟨r0, r1⟩ := (HLI.out _ (Below.refl _ _)).2.1.at
    go_wp2_with fail
    refine (fold_any R wm _ L _ (HLI.out _ (Below.refl _ _)).1 (HLI.out _ (Below.refl _ _)).2.2.2 hl HK.out).mono ?_
    intro e w2 h2
    obtain ⟨aa, an, ac, rfl, hra, hb2⟩ := h2.uni
    rw [← HEE.out]
    rw [← HA.out] at hra
    have HB2 : Hid (Below w1.heap.size w1 w2) := hb2
    have HA2 : Hid (ERd w2 (.slice aa an ac) A) := hra
    clear h2 hb2 hra r0 r1
    obtain ⟨r0, r1⟩ := (HLI.out _ HB2.out).2.1.at
    go_wp2_with fail
    refine (refFold_any R wm _ L _ (HLI.out _ HB2.out).1 (HLI.out _ HB2.out).2.2.2 hl HK.out).mono ?_
    intro e w3 h3
    obtain ⟨ba, bn, bc', rfl, hrb, hb3⟩ := h3.uni
    rw [← HEE.out]
    rw [← HA.out] at hrb
    have HB3 : Hid (Below w1.heap.size w1 w3) := HB2.out.trans (hb3.mono HB2.out.size)
    have HA3 : Hid (ERd w3 (.slice aa an ac) A) := HA2.out.below hb3
    have HC3 : Hid (ERd w3 (.slice ba bn bc') A) := hrb
    clear h3 hb3 hrb r0 r1 HA2
    obtain ⟨r0, r1⟩ := (HLI.out _ HB3.out).2.1.at
    go_wp2_with fail
    refine (stale_any R wm _ L _ (HLI.out _ HB3.out).1 (HLI.out _ HB3.out).2.2.2 hl HK.out).mono ?_
    rintro e w4 ⟨rfl, hb4⟩
    rw [← HEE.out, ← Hst.out]
    have HB4 : Hid (Below w1.heap.size w1 w4) := HB3.out.trans (hb4.mono HB3.out.size)
    have HA4 : Hid (ERd w4 (.slice aa an ac) A) := HA3.out.below hb4
    have HC4 : Hid (ERd w4 (.slice ba bn bc') A) := HC3.out.below hb4
    clear hb4 r0 r1 HA3 HC3
    obtain ⟨r0, r1⟩ := (HLI.out _ HB4.out).2.1.at
    go_wp2_with fail
    refine (refStale_any R wm _ L _ (HLI.out _ HB4.out).1 (HLI.out _ HB4.out).2.2.2 hl HK.out).mono ?_
    rintro e w5 ⟨rfl, hb5⟩
    rw [← HEE.out, ← Hst.out]
    have HB5 : Hid (Below w1.heap.size w1 w5) := HB4.out.trans (hb5.mono HB4.out.size)
    have HA5 : Hid (ERd w5 (.slice aa an ac) A) := HA4.out.below hb5
    have HC5 : Hid (ERd w5 (.slice ba bn bc') A) := HC4.out.below hb5
    have HL5 : Hid (∀ W, Below w5.heap.size w5 W → Lies R W.heap.size W ∧ RBox R w.heap.size W ∧ Below w.heap.size w W ∧ EReads W (.slice a L.length cap) L) := fun W hW => HLI.out W (HB5.out.trans (hW.mono HB5.out.size))
    have HF1 : Hid (∀ W, Below w5.heap.size w5 W → Calls Try.prog 10 #[.agg #[.slice R.a R.len R.cap, .int .i64 R.kp], .slice a L.length cap] W fun e w' => e = .returned (.bool fa) ∧ Below W.heap.size W w') := fun W hW => by
      rw [Hfa.out]
      exact fits_any R _ L W (HL5.out W hW).1 (HL5.out W hW).2.2.2 hl HK.out
    have HF2 : Hid (∀ W, Below w5.heap.size w5 W → Calls Try.prog 11 #[.agg #[.slice R.a R.len R.cap, .int .i64 R.kp], .slice a L.length cap] W fun e w' => e = .returned (.bool fa) ∧ Below W.heap.size W w') := fun W hW => by
      rw [Hfa.out]
      exact refFits_any R _ L W (HL5.out W hW).1 (HL5.out W hW).2.2.2 HK.out
    clear hb5 r0 r1 HA4 HC4 Hfa Hst HEE HA
    go_wp2_with fail
    refine wp_region_noPanic ?_
    refine wp_region_held_drew (S := (fun w' => Below w5.heap.size w5 w')) (by kernel_rfl) ?_ (fun hHeld => ?_)
    · exact (Below.refl _ _).drew
    refine wpAnyH_ready (rs := [0]) (by kernel_rfl) (by simp) ?_
    refine AllReadyH.cons (o := _) rfl (fun K hK => ?_) AllReadyH.nil
    go_simp
    refine (alive15_any _).mono ?_
    rintro e w6 ⟨rfl, hb6⟩
    have HW6 : Hid (Below w5.heap.size w5 w6) := (Below.refl w5.heap.size w5).drew.trans hb6
    clear hb6
    refine hK.out _ _ ?_ (fun hHeld => ?_)
    · exact HW6.out
    clear hK K
    refine wpAnyH_take (i := 1) (v := .bool true) rfl (by kernel_rfl) (by kernel_rfl) (by kernel_rfl) (fun _ _ _ h => h) (Or.inl ⟨by rfl, ?_⟩) (by assumption) ?_
    · (intro w1 hSw; (try dsimp only at hSw); go_simp)
    simp only [List.getElem_toArray, List.getElem_cons_succ, List.getElem_cons_zero, Act.put, List.setIfInBounds_toArray, List.set_cons_zero, List.set_cons_succ]
    refine wpAnyH_take (i := 2) (v := .agg #[.slice R.a R.len R.cap, .int .i64 R.kp]) rfl (by kernel_rfl) (by kernel_rfl) (by kernel_rfl) (fun _ _ _ h => h) (Or.inl ⟨by rfl, ?_⟩) (by assumption) ?_
    · (intro w1 hSw; (try dsimp only at hSw); obtain ⟨r0, r1⟩ := (HL5.out _ hSw).2.1.at; go_simp)
    simp only [List.getElem_toArray, List.getElem_cons_succ, List.getElem_cons_zero, Act.put, List.setIfInBounds_toArray, List.set_cons_zero, List.set_cons_succ]
    refine wpAnyH_take (i := 3) (v := .slice a L.length cap) rfl (by kernel_rfl) (by kernel_rfl) (by kernel_rfl) (fun _ _ _ h => h) (Or.inl ⟨by rfl, ?_⟩) (by assumption) ?_
    · (intro w1 hSw; (try dsimp only at hSw); go_simp)
    simp only [List.getElem_toArray, List.getElem_cons_succ, List.getElem_cons_zero, Act.put, List.setIfInBounds_toArray, List.set_cons_zero, List.set_cons_succ]
    refine wpAnyH_take (i := 5) (v := .agg #[.slice R.a R.len R.cap, .int .i64 R.kp]) rfl (by kernel_rfl) (by kernel_rfl) (by kernel_rfl) (fun _ _ _ h => h) (Or.inl ⟨by rfl, ?_⟩) (by assumption) ?_
    · (intro w1 hSw; (try dsimp only at hSw); obtain ⟨r0, r1⟩ := (HL5.out _ hSw).2.1.at; go_simp)
    simp only [List.getElem_toArray, List.getElem_cons_succ, List.getElem_cons_zero, Act.put, List.setIfInBounds_toArray, List.set_cons_zero, List.set_cons_succ]
    refine wpAnyH_take (i := 6) (v := .slice a L.length cap) rfl (by kernel_rfl) (by kernel_rfl) (by kernel_rfl) (fun _ _ _ h => h) (Or.inl ⟨by rfl, ?_⟩) (by assumption) ?_
    · (intro w1 hSw; (try dsimp only at hSw); go_simp)
    simp only [List.getElem_toArray, List.getElem_cons_succ, List.getElem_cons_zero, Act.put, List.setIfInBounds_toArray, List.set_cons_zero, List.set_cons_succ]
    refine wpAnyH_ready (rs := [4]) (by kernel_rfl) (by simp) ?_
    refine AllReadyH.cons (o := _) rfl (fun K hK => ?_) AllReadyH.nil
    go_simp
    refine (HF1.out _ HW6.out).mono ?_
    rintro e w7 ⟨rfl, hb7⟩
    have HW7 : Hid (Below w5.heap.size w5 w7) := HW6.out.trans (hb7.mono HW6.out.size)
    clear hb7
    refine hK.out _ _ ?_ (fun hHeld => ?_)
    · exact HW7.out
    clear hK K
    refine wpAnyH_ready (rs := [7]) (by kernel_rfl) (by simp) ?_
    refine AllReadyH.cons (o := _) rfl (fun K hK => ?_) AllReadyH.nil
    go_simp
    refine (HF2.out _ HW7.out).mono ?_
    rintro e w8 ⟨rfl, hb8⟩
    have HW8 : Hid (Below w5.heap.size w5 w8) := HW7.out.trans (hb8.mono HW7.out.size)
    clear hb8
    refine hK.out _ _ ?_ (fun hHeld => ?_)
    · exact HW8.out
    clear hK K
    refine wpAnyH_take (i := 8) (v := .bool true) rfl (by kernel_rfl) (by kernel_rfl) (by kernel_rfl) (fun _ _ _ h => h) (Or.inl ⟨by rfl, ?_⟩) (by assumption) ?_
    · (intro w1 hSw; (try dsimp only at hSw); go_simp; (try simp))
    simp only [List.getElem_toArray, List.getElem_cons_succ, List.getElem_cons_zero, Act.put, List.setIfInBounds_toArray, List.set_cons_zero, List.set_cons_succ]
    refine wpAnyH_take (i := 9) (v := .bool true) rfl (by kernel_rfl) (by kernel_rfl) (by kernel_rfl) (fun _ _ _ h => h) (Or.inl ⟨by rfl, ?_⟩) (by assumption) ?_
    · (intro w1 hSw; (try dsimp only at hSw); go_simp)
    simp only [List.getElem_toArray, List.getElem_cons_succ, List.getElem_cons_zero, Act.put, List.setIfInBounds_toArray, List.set_cons_zero, List.set_cons_succ]
    refine wpAnyH_take (i := 10) (v := .bool true) rfl (by kernel_rfl) (by kernel_rfl) (by kernel_rfl) (fun _ _ _ h => h) (Or.inl ⟨by rfl, ?_⟩) (by assumption) ?_
    · (intro w1 hSw; (try dsimp only at hSw); go_simp)
    simp only [List.getElem_toArray, List.getElem_cons_succ, List.getElem_cons_zero, Act.put, List.setIfInBounds_toArray, List.set_cons_zero, List.set_cons_succ]
    refine wpAnyH_take (i := 11) (v := .slice aa an ac) rfl (by kernel_rfl) (by kernel_rfl) (by kernel_rfl) (fun _ _ _ h => h) (Or.inl ⟨by rfl, ?_⟩) (by assumption) ?_
    · (intro w1 hSw; (try dsimp only at hSw); go_simp)
    simp only [List.getElem_toArray, List.getElem_cons_succ, List.getElem_cons_zero, Act.put, List.setIfInBounds_toArray, List.set_cons_zero, List.set_cons_succ]
    refine wpAnyH_take (i := 12) (v := .slice ba bn bc') rfl (by kernel_rfl) (by kernel_rfl) (by kernel_rfl) (fun _ _ _ h => h) (Or.inl ⟨by rfl, ?_⟩) (by assumption) ?_
    · (intro w1 hSw; (try dsimp only at hSw); go_simp)
    simp only [List.getElem_toArray, List.getElem_cons_succ, List.getElem_cons_zero, Act.put, List.setIfInBounds_toArray, List.set_cons_zero, List.set_cons_succ]
    refine wpAnyH_ready (rs := [13]) (by kernel_rfl) (by simp) ?_
    refine AllReadyH.cons (o := _) rfl (fun K hK => ?_) AllReadyH.nil
    go_simp
    refine (same_true _ _ A _ (HA5.out.below HW8.out) (HC5.out.below HW8.out)).mono ?_
    rintro e w9 ⟨rfl, hb9⟩
    have HW9 : Hid (Below w5.heap.size w5 w9) := HW8.out.trans (hb9.mono HW8.out.size)
    clear hb9
    refine hK.out _ _ ?_ (fun hHeld => ?_)
    · exact HW9.out
    clear hK K
    refine wpAnyH_take (i := 14) (v := .bool true) rfl (by kernel_rfl) (by kernel_rfl) (by kernel_rfl) (fun _ _ _ h => h) (Or.inl ⟨by rfl, ?_⟩) (by assumption) ?_
    · (intro w1 hSw; (try dsimp only at hSw); go_simp)
    simp only [List.getElem_toArray, List.getElem_cons_succ, List.getElem_cons_zero, Act.put, List.setIfInBounds_toArray, List.set_cons_zero, List.set_cons_succ]
    refine wpAnyH_take (i := 15) (v := .bool true) rfl (by kernel_rfl) (by kernel_rfl) (by kernel_rfl) (fun _ _ _ h => h) (Or.inl ⟨by rfl, ?_⟩) (by assumption) ?_
    · (intro w1 hSw; (try dsimp only at hSw); go_simp)
    simp only [List.getElem_toArray, List.getElem_cons_succ, List.getElem_cons_zero, Act.put, List.setIfInBounds_toArray, List.set_cons_zero, List.set_cons_succ]
    refine wpAnyH_take (i := 16) (v := .int .i64 E) rfl (by kernel_rfl) (by kernel_rfl) (by kernel_rfl) (fun _ _ _ h => h) (Or.inl ⟨by rfl, ?_⟩) (by assumption) ?_
    · (intro w1 hSw; (try dsimp only at hSw); go_simp)
    simp only [List.getElem_toArray, List.getElem_cons_succ, List.getElem_cons_zero, Act.put, List.setIfInBounds_toArray, List.set_cons_zero, List.set_cons_succ]
    refine wpAnyH_take (i := 17) (v := .int .i64 E) rfl (by kernel_rfl) (by kernel_rfl) (by kernel_rfl) (fun _ _ _ h => h) (Or.inl ⟨by rfl, ?_⟩) (by assumption) ?_
    · (intro w1 hSw; (try dsimp only at hSw); go_simp)
    simp only [List.getElem_toArray, List.getElem_cons_succ, List.getElem_cons_zero, Act.put, List.setIfInBounds_toArray, List.set_cons_zero, List.set_cons_succ]
    refine wpAnyH_take (i := 18) (v := .bool true) rfl (by kernel_rfl) (by kernel_rfl) (by kernel_rfl) (fun _ _ _ h => h) (Or.inl ⟨by rfl, ?_⟩) (by assumption) ?_
    · (intro w1 hSw; (try dsimp only at hSw); go_simp; (try simp))
    simp only [List.getElem_toArray, List.getElem_cons_succ, List.getElem_cons_zero, Act.put, List.setIfInBounds_toArray, List.set_cons_zero, List.set_cons_succ]
    refine wpAnyH_take (i := 19) (v := .bool true) rfl (by kernel_rfl) (by kernel_rfl) (by kernel_rfl) (fun _ _ _ h => h) (Or.inl ⟨by rfl, ?_⟩) (by assumption) ?_
    · (intro w1 hSw; (try dsimp only at hSw); go_simp)
    simp only [List.getElem_toArray, List.getElem_cons_succ, List.getElem_cons_zero, Act.put, List.setIfInBounds_toArray, List.set_cons_zero, List.set_cons_succ]
    refine wpAnyH_take (i := 20) (v := .bool true) rfl (by kernel_rfl) (by kernel_rfl) (by kernel_rfl) (fun _ _ _ h => h) (Or.inl ⟨by rfl, ?_⟩) (by assumption) ?_
    · (intro w1 hSw; (try dsimp only at hSw); go_simp)
    simp only [List.getElem_toArray, List.getElem_cons_succ, List.getElem_cons_zero, Act.put, List.setIfInBounds_toArray, List.set_cons_zero, List.set_cons_succ]
    refine wpAnyH_take (i := 21) (v := .bool st) rfl (by kernel_rfl) (by kernel_rfl) (by kernel_rfl) (fun _ _ _ h => h) (Or.inl ⟨by rfl, ?_⟩) (by assumption) ?_
    · (intro w1 hSw; (try dsimp only at hSw); go_simp)
    simp only [List.getElem_toArray, List.getElem_cons_succ, List.getElem_cons_zero, Act.put, List.setIfInBounds_toArray, List.set_cons_zero, List.set_cons_succ]
    refine wpAnyH_take (i := 22) (v := .bool st) rfl (by kernel_rfl) (by kernel_rfl) (by kernel_rfl) (fun _ _ _ h => h) (Or.inl ⟨by rfl, ?_⟩) (by assumption) ?_
    · (intro w1 hSw; (try dsimp only at hSw); go_simp)
    simp only [List.getElem_toArray, List.getElem_cons_succ, List.getElem_cons_zero, Act.put, List.setIfInBounds_toArray, List.set_cons_zero, List.set_cons_succ]
    refine wpAnyH_take (i := 23) (v := .bool true) rfl (by kernel_rfl) (by kernel_rfl) (by kernel_rfl) (fun _ _ _ h => h) (Or.inl ⟨by rfl, ?_⟩) (by assumption) ?_
    · (intro w1 hSw; (try dsimp only at hSw); go_simp; (try simp))
    simp only [List.getElem_toArray, List.getElem_cons_succ, List.getElem_cons_zero, Act.put, List.setIfInBounds_toArray, List.set_cons_zero, List.set_cons_succ]
    refine wpAnyH_take (i := 24) (v := .bool true) rfl (by kernel_rfl) (by kernel_rfl) (by kernel_rfl) (fun _ _ _ h => h) (Or.inl ⟨by rfl, ?_⟩) (by assumption) ?_
    · (intro w1 hSw; (try dsimp only at hSw); go_simp)
    simp only [List.getElem_toArray, List.getElem_cons_succ, List.getElem_cons_zero, Act.put, List.setIfInBounds_toArray, List.set_cons_zero, List.set_cons_succ]
    refine wpAnyH_take (i := 25) (v := .bool true) rfl (by kernel_rfl) (by kernel_rfl) (by kernel_rfl) (fun _ _ _ h => h) (Or.inl ⟨by rfl, ?_⟩) (by assumption) ?_
    · (intro w1 hSw; (try dsimp only at hSw); go_simp)
    simp only [List.getElem_toArray, List.getElem_cons_succ, List.getElem_cons_zero, Act.put, List.setIfInBounds_toArray, List.set_cons_zero, List.set_cons_succ]
    refine wpAnyH_take (i := 26) (v := .int .i64 E) rfl (by kernel_rfl) (by kernel_rfl) (by kernel_rfl) (fun _ _ _ h => h) (Or.inl ⟨by rfl, ?_⟩) (by assumption) ?_
    · (intro w1 hSw; (try dsimp only at hSw); go_simp)
    simp only [List.getElem_toArray, List.getElem_cons_succ, List.getElem_cons_zero, Act.put, List.setIfInBounds_toArray, List.set_cons_zero, List.set_cons_succ]
    refine wpAnyH_take (i := 27) (v := .int .i64 E) rfl (by kernel_rfl) (by kernel_rfl) (by kernel_rfl) (fun _ _ _ h => h) (Or.inl ⟨by rfl, ?_⟩) (by assumption) ?_
    · (intro w1 hSw; (try dsimp only at hSw); go_simp)
    simp only [List.getElem_toArray, List.getElem_cons_succ, List.getElem_cons_zero, Act.put, List.setIfInBounds_toArray, List.set_cons_zero, List.set_cons_succ]
    refine wpAnyH_take (i := 28) (v := .bool true) rfl (by kernel_rfl) (by kernel_rfl) (by kernel_rfl) (fun _ _ _ h => h) (Or.inl ⟨by rfl, ?_⟩) (by assumption) ?_
    · (intro w1 hSw; (try dsimp only at hSw); go_simp; (try simp))
    simp only [List.getElem_toArray, List.getElem_cons_succ, List.getElem_cons_zero, Act.put, List.setIfInBounds_toArray, List.set_cons_zero, List.set_cons_succ]
    refine wpAnyH_take (i := 29) (v := .bool true) rfl (by kernel_rfl) (by kernel_rfl) (by kernel_rfl) (fun _ _ _ h => h) (Or.inl ⟨by rfl, ?_⟩) (by assumption) ?_
    · (intro w1 hSw; (try dsimp only at hSw); go_simp)
    simp only [List.getElem_toArray, List.getElem_cons_succ, List.getElem_cons_zero, Act.put, List.setIfInBounds_toArray, List.set_cons_zero, List.set_cons_succ]
    refine wpAnyH_take (i := 30) (v := .bool true) rfl (by kernel_rfl) (by kernel_rfl) (by kernel_rfl) (fun _ _ _ h => h) (Or.inl ⟨by rfl, ?_⟩) (by assumption) ?_
    · (intro w1 hSw; (try dsimp only at hSw); go_simp)
    simp only [List.getElem_toArray, List.getElem_cons_succ, List.getElem_cons_zero, Act.put, List.setIfInBounds_toArray, List.set_cons_zero, List.set_cons_succ]
    clear hHeld
    refine wpAnyH_done (by kernel_rfl) ?_ _
    refine NoPanic.normal ?_
    have HB9 : Hid (Below w.heap.size w w9) := (HL5.out _ HW9.out).2.2.1
    go_wp2_with fail
    go_ret
    exact ⟨rfl, HB9.out⟩
end Go.Proofs.Ytiamjcgfmfbnoaa
