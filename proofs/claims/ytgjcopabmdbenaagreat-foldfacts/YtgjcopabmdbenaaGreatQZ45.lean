/- RE3, joined. -/
import Derived.Test.YtgjcopabmdbenaaGreatQZ24
import Derived.Test.YtgjcopabmdbenaaGreatQZ38
import Derived.Test.YtgjcopabmdbenaaGreatQZ41
import Derived.Test.YtgjcopabmdbenaaGreatQZ44
/- The walk of FoldFacts. -/
namespace Go.Proofs.YtgjcopabmdbenaaGreat
open Go.RowKit

/-- What Facts tells, in one word. -/
noncomputable def fcQ (R : Rl) (wm : Int) (fs : List Fa) : List En × Int := if fE R 0 wm ≠ 0 then ([], fE R 0 wm) else if fs.all mayF = true then (foldF R wm (fs.map (fcE R)), 0) else ([], 110)
theorem FcPost.uni {R : Rl} {wm : Int} {fs : List Fa} {w w' : World} {e : Ending} (h : FcPost R wm fs w e w') : ∃ a n cap, e = .returned (.tuple #[.slice a n cap, .int .i64 (fcQ R wm fs).2]) ∧ ERd w' (.slice a n cap) (fcQ R wm fs).1 ∧ Below w.heap.size w w' := by
  obtain ⟨hb, ⟨hne, rfl⟩ | ⟨hz, ha, rfl⟩ | ⟨hz, ha, l, rfl, hr⟩⟩ := h
  · unfold fcQ
    rw [if_pos hne]
    exact ⟨none, 0, 0, rfl, EReads.rd ⟨none, 0, rfl, by simp, by simp, .inl rfl⟩, hb⟩
  · unfold fcQ
    rw [if_neg (fun h => h hz), if_neg (by rw [ha]; decide)]
    exact ⟨none, 0, 0, rfl, EReads.rd ⟨none, 0, rfl, by simp, by simp, .inl rfl⟩, hb⟩
  · unfold fcQ
    rw [if_neg (fun h => h hz), if_pos ha]
    obtain ⟨a, cap, rfl, _⟩ := hr.form
    exact ⟨a, _, cap, rfl, hr.rd, hb⟩
set_option maxRecDepth 100000 in
set_option maxHeartbeats 4000000 in
theorem facts_walk (R : Rl) (wm : Int) (v : Value) (fs : List Fa) (w : World) (hL : Lies R w.heap.size w) (hF : FReads w v fs) :
    Calls Tryz.prog 3 #[.agg #[.slice R.a R.len R.cap, .int .i64 R.kp], .int .i64 wm, v] w fun e w' => e = .returned (.bool true) ∧ Below w.heap.size w w' := by
  have HF : Hid (FReads w v fs) := hF
  have HL : Hid (Lies R w.heap.size w) := hL
  obtain ⟨a, cap, rfl, hm1, hm2⟩ := hF.form
  unfold maxLen at hm2
  clear hF hL
  obtain ⟨w1, HW1⟩ := hid_ex (w.alloc (.cells #[.slice R.a R.len R.cap, .int .i64 R.kp] 24))
  have HB1 : Hid (Below w.heap.size w w1) := by rw [HW1.out]; exact new_below _ _
  have HX1 : Hid (RBox R w.heap.size w1) := by rw [HW1.out]; exact RBox.new R w _
  have HLI : Hid (∀ W, Below w1.heap.size w1 W → Lies R W.heap.size W ∧ RBox R w.heap.size W ∧ Below w.heap.size w W ∧ FReads W (.slice a fs.length cap) fs) := fun W hW => by
    have hb := HB1.out.trans (hW.mono HB1.out.size)
    exact ⟨HL.out.at hb, HX1.out.below hW, hb, HF.out.below hb⟩
  go_enter Tryz.func3, Tryz.ntmps3
  go_wp2_with fail
  rw [← HW1.out]
  clear HW1
  refine (many15_any _ fs _ (HLI.out _ (Below.refl _ _)).2.2.2).mono ?_
  rintro e w2 ⟨gg, rfl, hgg, hw2⟩
  rw [hw2]
  clear hw2 w2
  cases gg with
  | true =>
    go_wp2_with fail
    refine (alive15_any _).mono ?_
    rintro e w2 ⟨rfl, hb2⟩
    have HB2 : Hid (Below w.heap.size w w2) := HB1.out.trans (hb2.mono HB1.out.size)
    clear hb2 hgg
    go_wp2_with fail
    go_ret
    exact ⟨rfl, HB2.out⟩
  | false =>
    have hl : fs.length ≤ 100000 := by have := hgg rfl; omega
    clear hgg
    obtain ⟨E, HEE⟩ := hid_ex (fcQ R wm fs).2
    obtain ⟨A, HA⟩ := hid_ex (fcQ R wm fs).1
    obtain ⟨r0, r1⟩ := (HLI.out _ (Below.refl _ _)).2.1.at
    go_wp2_with fail
    refine (facts_any R wm _ fs _ (HLI.out _ (Below.refl _ _)).1 (HLI.out _ (Below.refl _ _)).2.2.2 hl (sorts_all _ hl)).mono ?_
    intro e w2 h2
    obtain ⟨aa, an, ac, rfl, hra, hb2⟩ := h2.uni
    rw [← HEE.out]
    rw [← HA.out] at hra
    have HB2 : Hid (Below w1.heap.size w1 w2) := hb2
    have HA2 : Hid (ERd w2 (.slice aa an ac) A) := hra
    clear h2 hb2 hra r0 r1
    obtain ⟨r0, r1⟩ := (HLI.out _ HB2.out).2.1.at
    go_wp2_with fail
    refine (refFacts_any R wm _ fs _ (HLI.out _ HB2.out).1 (HLI.out _ HB2.out).2.2.2 hl).mono ?_
    intro e w3 h3
    obtain ⟨ba, bn, bc', rfl, hrb, hb3⟩ := h3.uni
    rw [← HEE.out]
    rw [← HA.out] at hrb
    have HB3 : Hid (Below w1.heap.size w1 w3) := HB2.out.trans (hb3.mono HB2.out.size)
    have HA3 : Hid (ERd w3 (.slice aa an ac) A) := HA2.out.below hb3
    have HC3 : Hid (ERd w3 (.slice ba bn bc') A) := hrb
    clear h3 hb3 hrb r0 r1 HA2 HEE HA
    go_wp2_with fail
    refine (alive15_any _).mono ?_
    rintro e w4 ⟨rfl, hb4⟩
    have HB4 : Hid (Below w1.heap.size w1 w4) := HB3.out.trans (hb4.mono HB3.out.size)
    have HA4 : Hid (ERd w4 (.slice aa an ac) A) := HA3.out.below hb4
    have HC4 : Hid (ERd w4 (.slice ba bn bc') A) := HC3.out.below hb4
    clear hb4 HA3 HC3
    go_wp2_with fail
    refine (same_true _ _ A _ HA4.out HC4.out).mono ?_
    rintro e w5 ⟨rfl, hb5⟩
    have HB5 : Hid (Below w.heap.size w w5) := (HLI.out _ (HB4.out.trans (hb5.mono HB4.out.size))).2.2.1
    clear hb5
    go_wp2_with fail
    go_ret
    exact ⟨rfl, HB5.out⟩
end Go.Proofs.YtgjcopabmdbenaaGreat
