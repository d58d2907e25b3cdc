/- The walk of GrainNested. -/
import Derived.Test.YtfgnojmpnkjdmaaG7
import Derived.Test.YtfgnojmpnkjdmaaOR
namespace Go.Proofs.Ytfgnojmpnkjdmaa
open Go.RowKit

set_option maxRecDepth 100000 in
set_option maxHeartbeats 1000000 in
theorem nested_no (R : Rl) (t s : Int) (w : World) (hL : Lies R w.heap.size w) (h : ¬ RightP R) :
    Calls Try.prog 6 #[.agg #[.slice R.a R.len R.cap, .int .i64 R.kp], .int .i64 t, .int .i64 s] w fun e w' => e = .returned (.bool true) ∧ Below w.heap.size w w' := by
  have hd : decide (RightP R) = false := by simpa using h
  clear h
  have HL : Hid (Lies R w.heap.size w) := hL
  have HB0 : Hid (Below w.heap.size w (w.alloc (.cells #[.slice R.a R.len R.cap, .int .i64 R.kp] 24))) := new_below _ _
  have HX0 : Hid (RBox R w.heap.size (w.alloc (.cells #[.slice R.a R.len R.cap, .int .i64 R.kp] 24))) := RBox.new R w _
  have HL0 : Hid (Lies R (w.alloc (.cells #[.slice R.a R.len R.cap, .int .i64 R.kp] 24)).heap.size (w.alloc (.cells #[.slice R.a R.len R.cap, .int .i64 R.kp] 24))) := HL.out.at HB0.out
  clear hL
  go_enter Try.func6, Try.ntmps6
  go_wp2_with fail
  refine (right_any R _ HL0.out).mono ?_
  rw [hd]
  rintro e w1 ⟨rfl, hb1⟩
  have HB1 : Hid (Below w.heap.size w w1) := HB0.out.trans (hb1.mono HB0.out.size)
  have HX1 : Hid (RBox R w.heap.size w1) := HX0.out.below hb1
  have HL1 : Hid (Lies R w1.heap.size w1) := HL.out.at HB1.out
  clear hb1
  (try clear c0 c1)
  obtain ⟨_, c0, c1⟩ := HX1.out
  go_wp2_with fail
  refine (alive_any _).mono ?_
  rintro e w2 ⟨rfl, hb2⟩
  have HB2 : Hid (Below w.heap.size w w2) := HB1.out.trans (hb2.mono HB1.out.size)
  have HX2 : Hid (RBox R w.heap.size w2) := HX1.out.below hb2
  have HL2 : Hid (Lies R w2.heap.size w2) := HL.out.at HB2.out
  clear hb2
  (try clear c0 c1)
  obtain ⟨_, c0, c1⟩ := HX2.out
  go_wp2_with fail
  go_ret
  exact ⟨rfl, HB2.out⟩
set_option maxRecDepth 100000 in
set_option maxHeartbeats 1000000 in
theorem nested_out (R : Rl) (t s : Int) (w : World) (hL : Lies R w.heap.size w) (h : RightP R) (hs : s < 0 ∨ (R.len : Int) - 1 ≤ s) :
    Calls Try.prog 6 #[.agg #[.slice R.a R.len R.cap, .int .i64 R.kp], .int .i64 t, .int .i64 s] w fun e w' => e = .returned (.bool true) ∧ Below w.heap.size w w' := by
  have hd : decide (RightP R) = true := by simpa using h
  have hl4 := h.2.1
  have hl1 := h.1
  have hwl : IntKind.i64.wrap ((R.len : Int) - 1) = (R.len : Int) - 1 := by rw [IntKind.wrap_i64]; omega
  clear h
  by_cases h0 : s < 0
  · have g0 : decide (s < 0) = true := by simpa using h0
    clear hs h0 hl4 hl1
    have HL : Hid (Lies R w.heap.size w) := hL
    have HB0 : Hid (Below w.heap.size w (w.alloc (.cells #[.slice R.a R.len R.cap, .int .i64 R.kp] 24))) := new_below _ _
    have HX0 : Hid (RBox R w.heap.size (w.alloc (.cells #[.slice R.a R.len R.cap, .int .i64 R.kp] 24))) := RBox.new R w _
    have HL0 : Hid (Lies R (w.alloc (.cells #[.slice R.a R.len R.cap, .int .i64 R.kp] 24)).heap.size (w.alloc (.cells #[.slice R.a R.len R.cap, .int .i64 R.kp] 24))) := HL.out.at HB0.out
    clear hL
    go_enter Try.func6, Try.ntmps6
    go_wp2_with fail
    refine (right_any R _ HL0.out).mono ?_
    rw [hd]
    rintro e w1 ⟨rfl, hb1⟩
    have HB1 : Hid (Below w.heap.size w w1) := HB0.out.trans (hb1.mono HB0.out.size)
    have HX1 : Hid (RBox R w.heap.size w1) := HX0.out.below hb1
    have HL1 : Hid (Lies R w1.heap.size w1) := HL.out.at HB1.out
    clear hb1
    (try clear c0 c1)
    obtain ⟨_, c0, c1⟩ := HX1.out
    go_wp2_with fail
    refine (alive_any _).mono ?_
    rintro e w2 ⟨rfl, hb2⟩
    have HB2 : Hid (Below w.heap.size w w2) := HB1.out.trans (hb2.mono HB1.out.size)
    have HX2 : Hid (RBox R w.heap.size w2) := HX1.out.below hb2
    have HL2 : Hid (Lies R w2.heap.size w2) := HL.out.at HB2.out
    clear hb2
    (try clear c0 c1)
    obtain ⟨_, c0, c1⟩ := HX2.out
    go_wp2_with fail
    go_ret
    exact ⟨rfl, HB2.out⟩
  · have g0 : decide (s < 0) = false := by simpa using h0
    have g1 : decide ((R.len : Int) - 1 ≤ s) = true := by simp; omega
    clear hs h0 hl4 hl1
    have HL : Hid (Lies R w.heap.size w) := hL
    have HB0 : Hid (Below w.heap.size w (w.alloc (.cells #[.slice R.a R.len R.cap, .int .i64 R.kp] 24))) := new_below _ _
    have HX0 : Hid (RBox R w.heap.size (w.alloc (.cells #[.slice R.a R.len R.cap, .int .i64 R.kp] 24))) := RBox.new R w _
    have HL0 : Hid (Lies R (w.alloc (.cells #[.slice R.a R.len R.cap, .int .i64 R.kp] 24)).heap.size (w.alloc (.cells #[.slice R.a R.len R.cap, .int .i64 R.kp] 24))) := HL.out.at HB0.out
    clear hL
    go_enter Try.func6, Try.ntmps6
    go_wp2_with fail
    refine (right_any R _ HL0.out).mono ?_
    rw [hd]
    rintro e w1 ⟨rfl, hb1⟩
    have HB1 : Hid (Below w.heap.size w w1) := HB0.out.trans (hb1.mono HB0.out.size)
    have HX1 : Hid (RBox R w.heap.size w1) := HX0.out.below hb1
    have HL1 : Hid (Lies R w1.heap.size w1) := HL.out.at HB1.out
    clear hb1
    (try clear c0 c1)
    obtain ⟨_, c0, c1⟩ := HX1.out
    go_wp2_with fail
    refine (alive_any _).mono ?_
    rintro e w2 ⟨rfl, hb2⟩
    have HB2 : Hid (Below w.heap.size w w2) := HB1.out.trans (hb2.mono HB1.out.size)
    have HX2 : Hid (RBox R w.heap.size w2) := HX1.out.below hb2
    have HL2 : Hid (Lies R w2.heap.size w2) := HL.out.at HB2.out
    clear hb2
    (try clear c0 c1)
    obtain ⟨_, c0, c1⟩ := HX2.out
    go_wp2_with fail
    go_ret
    exact ⟨rfl, HB2.out⟩

set_option maxRecDepth 100000 in
set_option maxHeartbeats 1000000 in
theorem nested_notime (R : Rl) (t : Int) (k : Nat) (w : World) (hL : Lies R w.heap.size w) (h : RightP R) (hk : k + 1 < R.len) (ht : isT t = false) :
    Calls Try.prog 6 #[.agg #[.slice R.a R.len R.cap, .int .i64 R.kp], .int .i64 t, .int .i64 k] w fun e w' => e = .returned (.bool true) ∧ Below w.heap.size w w' := by
  have hd : decide (RightP R) = true := by simpa using h
  have hl4 := h.2.1
  have hwl : IntKind.i64.wrap ((R.len : Int) - 1) = (R.len : Int) - 1 := by rw [IntKind.wrap_i64]; omega
  have hwk : IntKind.i64.wrap ((k : Int) + 1) = ((k + 1 : Nat) : Int) := by rw [IntKind.wrap_i64]; omega
  have g1 : decide ((R.len : Int) - 1 ≤ (k : Int)) = false := by simp; omega
  have i1 : (k : Int) < (R.len : Int) := by omega
  have i2 : ((k + 1 : Nat) : Int) < (R.len : Int) := by omega
  have HK : Hid (k + 1 < R.len) := hk
  obtain ⟨b, off, ha⟩ := row_b h hL
  have HA : Hid (R.a = some ⟨b, off, none⟩) := ha
  clear h hk hl4 ha
  have HT : Hid (isT t = false) := ht
  clear ht
  obtain ⟨l, EL⟩ : ∃ l, Hid (l = k + 1) := ⟨k + 1, rfl⟩
  rw [← EL.out] at hwk i2
  have HL : Hid (Lies R w.heap.size w) := hL
  have HB0 : Hid (Below w.heap.size w (w.alloc (.cells #[.slice R.a R.len R.cap, .int .i64 R.kp] 24))) := new_below _ _
  have HX0 : Hid (RBox R w.heap.size (w.alloc (.cells #[.slice R.a R.len R.cap, .int .i64 R.kp] 24))) := RBox.new R w _
  have HL0 : Hid (Lies R (w.alloc (.cells #[.slice R.a R.len R.cap, .int .i64 R.kp] 24)).heap.size (w.alloc (.cells #[.slice R.a R.len R.cap, .int .i64 R.kp] 24))) := HL.out.at HB0.out
  clear hL
  go_enter Try.func6, Try.ntmps6
  go_wp2_with fail
  refine (right_any R _ HL0.out).mono ?_
  rw [hd]
  rintro e w1 ⟨rfl, hb1⟩
  have HB1 : Hid (Below w.heap.size w w1) := HB0.out.trans (hb1.mono HB0.out.size)
  have HX1 : Hid (RBox R w.heap.size w1) := HX0.out.below hb1
  have HL1 : Hid (Lies R w1.heap.size w1) := HL.out.at HB1.out
  clear hb1
  (try clear c0 c1)
  obtain ⟨_, c0, c1⟩ := HX1.out
  (try rw [HA.out] at c0)
  obtain ⟨dzk, dak⟩ := row_at HA.out HL1.out (k := k) (by have := HK.out; omega)
  (try rw [HA.out] at c0)
  obtain ⟨dzl, dal⟩ := row_at HA.out HL1.out (k := l) (by have := HK.out; rw [EL.out]; exact this)
  go_wp2_with fail
  refine (floor_any t (R.sz k) _).mono ?_
  rw [floorV_no HT.out]
  rintro e w' ⟨rfl, hw'⟩
  subst w'
  go_wp2_with fail
  refine (floor_any t (R.sz l) _).mono ?_
  rw [floorV_no HT.out]
  rintro e w' ⟨rfl, hw'⟩
  subst w'
  clear dzk dak dzl dal
  go_wp2_with fail
  refine (alive_any _).mono ?_
  rintro e w2 ⟨rfl, hb2⟩
  have HB2 : Hid (Below w.heap.size w w2) := HB1.out.trans (hb2.mono HB1.out.size)
  have HX2 : Hid (RBox R w.heap.size w2) := HX1.out.below hb2
  have HL2 : Hid (Lies R w2.heap.size w2) := HL.out.at HB2.out
  clear hb2
  (try clear c0 c1)
  obtain ⟨_, c0, c1⟩ := HX2.out
  go_wp2_with fail
  go_ret
  exact ⟨rfl, HB2.out⟩
theorem nested_facts (R : Rl) (h : RightP R) (t : Int) (k : Nat) (hk : k + 1 < R.len) (ht : isT t = true) :
    t - t % R.sz (k + 1) ≤ t - t % R.sz k ∧ t - t % R.sz k ≤ t ∧ t < endF t (R.sz k) ∧ endF t (R.sz k) ≤ endF t (R.sz (k + 1)) := by
  obtain ⟨f1, f2, f3, _⟩ := fol_facts h hk
  have ht' := (isT_iff t).1 ht
  have hn := nest t _ _ f1 f2 f3 ht'.1
  have hm := mod_bd t (R.sz k) ht'.1 f1
  refine ⟨hn.1, by omega, by unfold endF; omega, hn.2⟩
set_option maxRecDepth 100000 in
set_option maxHeartbeats 1000000 in
theorem nested_time (R : Rl) (t : Int) (k : Nat) (w : World) (hL : Lies R w.heap.size w) (h : RightP R) (hk : k + 1 < R.len) (ht : isT t = true) :
    Calls Try.prog 6 #[.agg #[.slice R.a R.len R.cap, .int .i64 R.kp], .int .i64 t, .int .i64 k] w fun e w' => e = .returned (.bool true) ∧ Below w.heap.size w w' := by
  have hd : decide (RightP R) = true := by simpa using h
  have hl4 := h.2.1
  have hwl : IntKind.i64.wrap ((R.len : Int) - 1) = (R.len : Int) - 1 := by rw [IntKind.wrap_i64]; omega
  have hwk : IntKind.i64.wrap ((k : Int) + 1) = ((k + 1 : Nat) : Int) := by rw [IntKind.wrap_i64]; omega
  have g1 : decide ((R.len : Int) - 1 ≤ (k : Int)) = false := by simp; omega
  have i1 : (k : Int) < (R.len : Int) := by omega
  have i2 : ((k + 1 : Nat) : Int) < (R.len : Int) := by omega
  have HK : Hid (k + 1 < R.len) := hk
  obtain ⟨f1, f2, f3, f4⟩ := nested_facts R h t k hk ht
  obtain ⟨b, off, ha⟩ := row_b h hL
  have HA : Hid (R.a = some ⟨b, off, none⟩) := ha
  have HR : Hid (RightP R) := h
  clear h hk hl4 ha
  have HT : Hid (isT t = true) := ht
  clear ht
  obtain ⟨l, EL⟩ : ∃ l, Hid (l = k + 1) := ⟨k + 1, rfl⟩
  rw [← EL.out] at hwk i2 f1 f4
  have HKl : Hid (l < R.len) := by unfold Hid; rw [EL.out]; exact HK.out
  have HKk : Hid (k < R.len) := by unfold Hid; have := HK.out; omega
  have FK : Hid _ := floorV_ok HT.out (sz_ok HR.out HKk.out)
  have FL : Hid _ := floorV_ok HT.out (sz_ok HR.out HKl.out)
  have AK : Hid (enA R t k = endF t (R.sz k)) := enA_of HR.out HT.out HKk.out
  have AL : Hid (enA R t l = endF t (R.sz l)) := enA_of HR.out HT.out HKl.out
  have EK : Hid (enE R t k = 0) := enE_of HR.out HT.out HKk.out
  have EM : Hid (enE R t l = 0) := enE_of HR.out HT.out HKl.out
  have g2 : decide (t - t % R.sz l ≤ t - t % R.sz k) = true := by simpa using f1
  have g3 : decide (t - t % R.sz k ≤ t) = true := by simpa using f2
  have g4 : decide (t < endF t (R.sz k)) = true := by simpa using f3
  have g5 : decide (endF t (R.sz k) ≤ endF t (R.sz l)) = true := by simpa using f4
  clear f1 f2 f3 f4
  have HL : Hid (Lies R w.heap.size w) := hL
  have HB0 : Hid (Below w.heap.size w (w.alloc (.cells #[.slice R.a R.len R.cap, .int .i64 R.kp] 24))) := new_below _ _
  have HX0 : Hid (RBox R w.heap.size (w.alloc (.cells #[.slice R.a R.len R.cap, .int .i64 R.kp] 24))) := RBox.new R w _
  have HL0 : Hid (Lies R (w.alloc (.cells #[.slice R.a R.len R.cap, .int .i64 R.kp] 24)).heap.size (w.alloc (.cells #[.slice R.a R.len R.cap, .int .i64 R.kp] 24))) := HL.out.at HB0.out
  clear hL
  go_enter Try.func6, Try.ntmps6
  go_wp2_with fail
  refine (right_any R _ HL0.out).mono ?_
  rw [hd]
  rintro e w1 ⟨rfl, hb1⟩
  have HB1 : Hid (Below w.heap.size w w1) := HB0.out.trans (hb1.mono HB0.out.size)
  have HX1 : Hid (RBox R w.heap.size w1) := HX0.out.below hb1
  have HL1 : Hid (Lies R w1.heap.size w1) := HL.out.at HB1.out
  clear hb1
  (try clear c0 c1)
  obtain ⟨_, c0, c1⟩ := HX1.out
  (try rw [HA.out] at c0)
  obtain ⟨dzk, dak⟩ := row_at HA.out HL1.out (k := k) HKk.out
  (try rw [HA.out] at c0)
  obtain ⟨dzl, dal⟩ := row_at HA.out HL1.out (k := l) HKl.out
  go_wp2_with fail
  refine (floor_any t (R.sz k) _).mono ?_
  rw [FK.out]
  rintro e w' ⟨rfl, hw'⟩
  subst w'
  go_wp2_with fail
  refine (floor_any t (R.sz l) _).mono ?_
  rw [FL.out]
  rintro e w' ⟨rfl, hw'⟩
  subst w'
  clear dzk dak dzl dal
  clear c0 c1
  obtain ⟨_, c0, c1⟩ := HX1.out
  generalize t - t % R.sz l = bl at *
  generalize t - t % R.sz k = al at *
  go_wp2_with fail
  refine (end_call R t k _ HL1.out).mono ?_
  rw [AK.out, EK.out]
  rintro e w2 ⟨rfl, hb2⟩
  have HB2 : Hid (Below w.heap.size w w2) := HB1.out.trans (hb2.mono HB1.out.size)
  have HX2 : Hid (RBox R w.heap.size w2) := HX1.out.below hb2
  have HL2 : Hid (Lies R w2.heap.size w2) := HL.out.at HB2.out
  clear hb2
  (try clear c0 c1)
  obtain ⟨_, c0, c1⟩ := HX2.out
  go_wp2_with fail
  refine (end_call R t l _ HL2.out).mono ?_
  rw [AL.out, EM.out]
  rintro e w3 ⟨rfl, hb3⟩
  have HB3 : Hid (Below w.heap.size w w3) := HB2.out.trans (hb3.mono HB2.out.size)
  have HX3 : Hid (RBox R w.heap.size w3) := HX2.out.below hb3
  have HL3 : Hid (Lies R w3.heap.size w3) := HL.out.at HB3.out
  clear hb3
  (try clear c0 c1)
  obtain ⟨_, c0, c1⟩ := HX3.out
  go_wp2_with fail
  refine (alive_any _).mono ?_
  rintro e w4 ⟨rfl, hb4⟩
  have HB4 : Hid (Below w.heap.size w w4) := HB3.out.trans (hb4.mono HB3.out.size)
  have HX4 : Hid (RBox R w.heap.size w4) := HX3.out.below hb4
  have HL4 : Hid (Lies R w4.heap.size w4) := HL.out.at HB4.out
  clear hb4
  (try clear c0 c1)
  obtain ⟨_, c0, c1⟩ := HX4.out
  go_wp2_with fail
  go_ret
  exact ⟨rfl, HB4.out⟩
theorem nestedWalk (R : Rl) (t s : Int) (w : World) (hL : Lies R w.heap.size w) :
    Calls Try.prog 6 #[.agg #[.slice R.a R.len R.cap, .int .i64 R.kp], .int .i64 t, .int .i64 s] w fun e w' => e = .returned (.bool true) ∧ Below w.heap.size w w' := by
  by_cases h : RightP R
  · by_cases hs : s < 0 ∨ (R.len : Int) - 1 ≤ s
    · exact nested_out R t s w hL h hs
    · obtain ⟨k, rfl⟩ : ∃ k : Nat, s = k := ⟨s.toNat, by omega⟩
      cases ht : isT t
      · exact nested_notime R t k w hL h (by omega) ht
      · exact nested_time R t k w hL h (by omega) ht
  · exact nested_no R t s w hL h
end Go.Proofs.Ytfgnojmpnkjdmaa
