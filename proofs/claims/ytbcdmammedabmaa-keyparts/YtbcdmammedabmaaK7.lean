/- The contracts of the statements' own 'long', and of the reference's Order and Same. -/
import Derived.Test.YtbcdmammedabmaaK5
import Derived.Deep.QuietTactic
import Derived.BigQuiet
namespace Go.Proofs.Ytbcdmammedabmaa
open Go.RowKit

/-- Are there too many dimensions, or too long ones? -/
def longB (L : List ByteArray) : Bool := !decide (L.length ≤ 80 ∧ ∀ s ∈ L, s.size ≤ 200)
theorem longB_no {L : List ByteArray} : longB L = false ↔ L.length ≤ 80 ∧ ∀ s ∈ L, s.size ≤ 200 := by unfold longB; simp
theorem longB_yes {L : List ByteArray} (h : ¬ (L.length ≤ 80 ∧ ∀ s ∈ L, s.size ≤ 200)) : longB L = true := by unfold longB; rw [decide_eq_false h]; rfl
set_option maxRecDepth 100000 in
set_option maxHeartbeats 1000000 in
theorem long_any (v : Value) (L : List ByteArray) (w : World) (h : SReads w v L) :
    Calls Try.prog 9 #[v] w fun e w' => e = .returned (.bool (longB L)) ∧ w' = w := by
  obtain ⟨a, cap, rfl, hl⟩ := h.form
  unfold maxLen at hl
  have HR : Hid (SReads w (.slice a L.length cap) L) := h
  clear h
  by_cases h4 : 80 < L.length
  · have HM : Hid (longB L = true) := longB_yes (by omega)
    have i1 : (80 : Int) < (L.length : Int) := by omega
    clear h4
    go_enter Try.func9, Try.ntmps9
    go_wp2_with fail
    go_ret
    exact ⟨by rw [HM.out]; rfl, rfl⟩
  · have i1 : ¬ (80 : Int) < (L.length : Int) := by omega
    go_enter Try.func9, Try.ntmps9
    go_wp2_with fail
    go_loop [3] (fun i => ∃ k : Nat, k ≤ L.length ∧ i = .int .i64 k ∧ Hid (∀ s ∈ L.take k, s.size ≤ 200)) (fun i => L.length - (intOf i).toNat)
    case atStart => exact ⟨0, Nat.zero_le _, rfl, by intro s hs; simp at hs⟩
    case round =>
      obtain ⟨k, hk, rfl, HK⟩ := hrel
      by_cases hlt : k < L.length
      · obtain ⟨b, off, rfl, _, hcell⟩ := HR.out.at k hlt
        have hsz : L[k].size ≤ maxLen := HR.out.size _ (List.getElem_mem hlt)
        unfold maxLen at hsz
        by_cases h16 : 200 < L[k].size
        · have HM : Hid (longB L = true) := longB_yes (by intro h; have := h.2 _ (List.getElem_mem hlt); omega)
          have i2 : (200 : Int) < (L[k].size : Int) := by omega
          go_wp2_with fail
          go_ret
          exact ⟨by rw [HM.out]; rfl, rfl⟩
        · have i2 : ¬ (200 : Int) < (L[k].size : Int) := by omega
          have HK1 : Hid (∀ s ∈ L.take (k + 1), s.size ≤ 200) := by
            intro s hs
            rw [List.take_succ_eq_append_getElem hlt] at hs
            rcases List.mem_append.1 hs with hs | hs
            · exact HK.out s hs
            · simp at hs; subst hs; omega
          go_wp2_with fail
          go_round
          case rel => exact ⟨k + 1, by omega, by go_num, HK1⟩
          case measure => simp [intOf]; omega
      · have HM : Hid (longB L = false) := by
          refine longB_no.2 ⟨by omega, ?_⟩
          have := HK.out
          rwa [List.take_of_length_le (by omega)] at this
        go_wp2_with fail
        go_ret
        exact ⟨by rw [HM.out]; rfl, rfl⟩
set_option maxRecDepth 100000 in
set_option maxHeartbeats 1000000 in
theorem order_any (va vb : Value) (A B : List ByteArray) (w : World) (ha : SReads w va A) (hb : SReads w vb B) :
    Calls Try.prog 24 #[va, vb] w fun e w' => e = .returned (.int .i64 (cmpL A B)) ∧ Below w.heap.size w w' := by
  obtain ⟨aa, ca, rfl, hma⟩ := ha.form
  obtain ⟨ab, cb, rfl, hmb⟩ := hb.form
  unfold maxLen at hma hmb
  have HA : Hid (SReads w (.slice aa A.length ca) A) := ha
  have HB : Hid (SReads w (.slice ab B.length cb) B) := hb
  clear ha hb
  go_enter Try.func24, Try.ntmps24
  go_wp2_with fail
  go_loopw [5] (fun i wr => ∃ k : Nat, k ≤ A.length ∧ k ≤ B.length ∧ i = .int .i64 k ∧ Hid (cmpL A B = cmpL (A.drop k) (B.drop k)) ∧ Hid (Below w.heap.size w wr)) (fun i _ => A.length - (intOf i).toNat)
  case atStart => exact ⟨0, Nat.zero_le _, Nat.zero_le _, rfl, rfl, Below.refl _ _⟩
  case round =>
    obtain ⟨k, hk1, hk2, rfl, HK, HBW⟩ := hrel
    by_cases hlt : k < A.length ∧ k < B.length
    · obtain ⟨hl1, hl2⟩ := hlt
      obtain ⟨ba, oa, rfl, _, c1⟩ := (HA.out.below HBW.out).at k hl1
      obtain ⟨bb, ob, rfl, _, c2⟩ := (HB.out.below HBW.out).at k hl2
      have HS : Hid (cmpL A B = if cmpS A[k] B[k] ≠ 0 then cmpS A[k] B[k] else cmpL (A.drop (k + 1)) (B.drop (k + 1))) := HK.out.trans (cmpL_drop hl1 hl2)
      generalize A[k] = s at *
      generalize B[k] = t at *
      have HC : Hid (cmpS s t = if Op.bytesLess s.toList t.toList = true then -1 else if s.toList = t.toList then 0 else 1) := rfl
      clear HK
      cases h1 : Op.bytesLess s.toList t.toList with
      | true =>
        have HS2 : Hid (cmpL A B = -1) := by
          have e : cmpS s t = -1 := by rw [HC.out, if_pos h1]
          rw [HS.out, e]; rfl
        clear HS HC
        go_wp2_with fail
        go_quiet (fail)
        have HB1 : Hid (Below w.heap.size w (wr.drewN nq)) := below_drewN HBW.out nq
        clear h1 c1 c2
        go_wp2_with fail
        go_ret
        exact ⟨by rw [HS2.out]; rfl, HB1.out⟩
      | false =>
        by_cases h2 : s.toList = t.toList
        · have HS2 : Hid (cmpL A B = cmpL (A.drop (k + 1)) (B.drop (k + 1))) := by
            have e : cmpS s t = 0 := by rw [HC.out, if_neg (by rw [h1]; decide), if_pos h2]
            rw [HS.out, e]; rfl
          have h3 : (s.toList == t.toList) = true := by simpa using h2
          clear HS HC h2
          go_wp2_with fail
          go_quiet (fail)
          have HB1 : Hid (Below w.heap.size w (wr.drewN nq)) := below_drewN HBW.out nq
          go_wp2_with fail
          go_quiet (fail)
          clear c1 c2 h1 h3 HB1
          go_wp2_with fail
          go_roundw
          case rel => exact ⟨k + 1, by omega, by omega, by go_num, HS2, below_drewN HBW.out _⟩
          case measure => simp [intOf]; omega
        · have HS2 : Hid (cmpL A B = 1) := by
            have e : cmpS s t = 1 := by rw [HC.out, if_neg (by rw [h1]; decide), if_neg h2]
            rw [HS.out, e]; rfl
          have h3 : (s.toList == t.toList) = false := by simpa using h2
          clear HS HC h2
          go_wp2_with fail
          go_quiet (fail)
          have HB1 : Hid (Below w.heap.size w (wr.drewN nq)) := below_drewN HBW.out nq
          go_wp2_with fail
          go_quiet (fail)
          have HB2 : Hid (Below w.heap.size w _) := below_drewN HB1.out nq
          clear c1 c2 h1 h3
          go_wp2_with fail
          go_ret
          exact ⟨by rw [HS2.out]; rfl, HB2.out⟩
    · have HS : Hid (cmpL A B = if A.length < B.length then -1 else if B.length < A.length then 1 else 0) := by
        rw [HK.out]
        unfold Hid
        by_cases h1 : k < A.length
        · rw [List.drop_eq_nil_of_le (show B.length ≤ k by omega), cmpL_nil_right (by simp; omega), if_neg (by omega), if_pos (by omega)]
        · rw [List.drop_eq_nil_of_le (show A.length ≤ k by omega), cmpL_nil_left, List.length_drop]
          by_cases h2 : A.length < B.length
          · rw [if_neg (by omega), if_pos h2]
          · rw [if_pos (by omega), if_neg h2, if_neg (by omega)]
      by_cases h1 : (k : Int) < (A.length : Int)
      · have h2 : ¬ (k : Int) < (B.length : Int) := by omega
        have h3 : ¬ (A.length : Int) < (B.length : Int) := by omega
        have h4 : (B.length : Int) < (A.length : Int) := by omega
        have HS2 : Hid (cmpL A B = 1) := by rw [HS.out, if_neg (by omega), if_pos (by omega)]; rfl
        clear HS hlt HK
        go_wp2_with fail
        go_ret
        exact ⟨by rw [HS2.out]; rfl, HBW.out⟩
      · by_cases h3 : (A.length : Int) < (B.length : Int)
        · have HS2 : Hid (cmpL A B = -1) := by rw [HS.out, if_pos (by omega)]; rfl
          clear HS hlt HK
          go_wp2_with fail
          go_ret
          exact ⟨by rw [HS2.out]; rfl, HBW.out⟩
        · have h4 : ¬ (B.length : Int) < (A.length : Int) := by omega
          have HS2 : Hid (cmpL A B = 0) := by rw [HS.out, if_neg (by omega), if_neg (by omega)]; rfl
          clear HS hlt HK
          go_wp2_with fail
          go_ret
          exact ⟨by rw [HS2.out]; rfl, HBW.out⟩
def sameK (a b : Ky) : Bool := decide (cmpL a.L b.L = 0 ∧ a.f = b.f ∧ a.g = b.g)
set_option maxRecDepth 100000 in
set_option maxHeartbeats 1000000 in
theorem same_any (a b : Ky) (w : World) (ha : KLies a w) (hb : KLies b w) :
    Calls Try.prog 17 #[a.val, b.val] w fun e w' => e = .returned (.bool (sameK a b)) ∧ Below w.heap.size w w' := by
  obtain ⟨a1, c1, hv1, _⟩ := ha.r.form
  obtain ⟨a2, c2, hv2, _⟩ := hb.r.form
  have HA := ha.r
  have HB := hb.r
  obtain ⟨v, L, f, g⟩ := a
  obtain ⟨v', L', f', g'⟩ := b
  simp only at hv1 hv2 HA HB
  subst hv1 hv2
  unfold Ky.val
  simp only
  obtain ⟨W, HW⟩ := hid_ex ((w.alloc (.cells #[.slice a1 L.length c1, .int .i64 f, .int .i64 g] 24)).alloc (.cells #[.slice a2 L'.length c2, .int .i64 f', .int .i64 g'] 24))
  have HE : Hid (sameK ⟨.slice a1 L.length c1, L, f, g⟩ ⟨.slice a2 L'.length c2, L', f', g'⟩ = decide (cmpL L L' = 0 ∧ f = f' ∧ g = g')) := rfl
  have HBW : Hid (Below w.heap.size w W) := by rw [HW.out]; exact box2_below (Below.refl _ _)
  have HA1 := HA.below HBW.out
  have HB1 := HB.below HBW.out
  have HX : Hid (Below (w.heap.size + 2) ((w.alloc (.cells #[.slice a1 L.length c1, .int .i64 f, .int .i64 g] 24)).alloc (.cells #[.slice a2 L'.length c2, .int .i64 f', .int .i64 g'] 24)) W) := by rw [HW.out]; exact Below.refl _ _
  have HZ : Hid (w.heap.size + 2 ≤ W.heap.size) := by have := HX.out.size; unfold Hid; simpa using this
  clear ha hb HA HB
  go_enter Try.func17, Try.ntmps17
  go_wp2_with fail
  rw [← HW.out]
  refine (order_any _ _ L L' _ HA1 HB1).mono ?_
  rintro e w2 ⟨rfl, hb2⟩
  have HX2 : Hid _ := HX.out.trans (hb2.mono HZ.out)
  have HB2 : Hid (Below w.heap.size w w2) := HBW.out.trans (hb2.mono HBW.out.size)
  obtain ⟨⟨k0, k1, k2⟩, k3, k4, k5⟩ := kbox2 HX2.out
  clear hb2 HA1 HB1 HX HX2 HW
  generalize cmpL L L' = p at *
  by_cases p0 : p = 0
  · have i0 : (p == 0) = true := by simpa using p0
    by_cases p1 : f = f'
    · have i1 : (f == f') = true := by simpa using p1
      by_cases p2 : g = g'
      · have i2 : (g == g') = true := by simpa using p2
        have HF : Hid (sameK ⟨.slice a1 L.length c1, L, f, g⟩ ⟨.slice a2 L'.length c2, L', f', g'⟩ = true) := by unfold Hid; rw [HE.out, decide_eq_true ⟨p0, p1, p2⟩]
        clear HE p0 p1 p2
        go_wp2_with fail
        go_ret
        exact ⟨by rw [HF.out]; rfl, HB2.out⟩
      · have i2 : (g == g') = false := by simpa using p2
        have HF : Hid (sameK ⟨.slice a1 L.length c1, L, f, g⟩ ⟨.slice a2 L'.length c2, L', f', g'⟩ = false) := by unfold Hid; rw [HE.out, decide_eq_false (fun h => p2 h.2.2)]
        clear HE p0 p1 p2
        go_wp2_with fail
        go_ret
        exact ⟨by rw [HF.out]; rfl, HB2.out⟩
    · have i1 : (f == f') = false := by simpa using p1
      have HF : Hid (sameK ⟨.slice a1 L.length c1, L, f, g⟩ ⟨.slice a2 L'.length c2, L', f', g'⟩ = false) := by unfold Hid; rw [HE.out, decide_eq_false (fun h => p1 h.2.1)]
      clear HE p0 p1
      go_wp2_with fail
      go_ret
      exact ⟨by rw [HF.out]; rfl, HB2.out⟩
  · have i0 : (p == 0) = false := by simpa using p0
    have HF : Hid (sameK ⟨.slice a1 L.length c1, L, f, g⟩ ⟨.slice a2 L'.length c2, L', f', g'⟩ = false) := by unfold Hid; rw [HE.out, decide_eq_false (fun h => p0 h.1)]
    clear HE p0
    go_wp2_with fail
    go_ret
    exact ⟨by rw [HF.out]; rfl, HB2.out⟩
end Go.Proofs.Ytbcdmammedabmaa
