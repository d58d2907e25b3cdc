/- The contracts of the reference's Fits, Right, Group, Part and Less. -/
import Derived.Test.YtbcdmammedabmaaK8
import Derived.Test.YtbcdmammedabmaaK9
import Derived.Test.YtbcdmammedabmaaC3r
namespace Go.Proofs.Ytbcdmammedabmaa
open Go.RowKit

set_option maxRecDepth 100000 in
set_option maxHeartbeats 1000000 in
theorem fits_any (v : Value) (L : List ByteArray) (w : World) (h : SReads w v L) :
    Calls Try.prog 33 #[v] w fun e w' => e = .returned (.bool (mayB L)) ∧ w' = w := by
  obtain ⟨a, cap, rfl, hl⟩ := h.form
  unfold maxLen at hl
  have HR : Hid (SReads w (.slice a L.length cap) L) := h
  clear h
  by_cases h4 : 4 < L.length
  · have HM : Hid (mayB L = false) := mayB_no (by omega)
    have i1 : (4 : Int) < (L.length : Int) := by omega
    clear h4
    go_enter Try.func33, Try.ntmps33
    go_wp2_with fail
    go_ret
    exact ⟨by rw [HM.out]; rfl, rfl⟩
  · have i1 : ¬ (4 : Int) < (L.length : Int) := by omega
    go_enter Try.func33, Try.ntmps33
    go_wp2_with fail
    go_loop [3] (fun i => ∃ k : Nat, k ≤ L.length ∧ i = .int .i64 k ∧ Hid (∀ s ∈ L.take k, s.size ≤ 16)) (fun i => L.length - (intOf i).toNat)
    case atStart => exact ⟨0, Nat.zero_le _, rfl, by intro s hs; simp at hs⟩
    case round =>
      obtain ⟨k, hk, rfl, HK⟩ := hrel
      by_cases hlt : k < L.length
      · obtain ⟨b, off, rfl, _, hcell⟩ := HR.out.at k hlt
        have hsz : L[k].size ≤ maxLen := HR.out.size _ (List.getElem_mem hlt)
        unfold maxLen at hsz
        by_cases h16 : 16 < L[k].size
        · have HM : Hid (mayB L = false) := mayB_no (by intro h; have := h.2 _ (List.getElem_mem hlt); omega)
          have i2 : (16 : Int) < (L[k].size : Int) := by omega
          go_wp2_with fail
          go_ret
          exact ⟨by rw [HM.out]; rfl, rfl⟩
        · have i2 : ¬ (16 : Int) < (L[k].size : Int) := by omega
          have HK1 : Hid (∀ s ∈ L.take (k + 1), s.size ≤ 16) := by
            intro s hs
            rw [List.take_succ_eq_append_getElem hlt] at hs
            rcases List.mem_append.1 hs with hs | hs
            · exact HK.out s hs
            · simp at hs; subst hs; omega
          go_wp2_with fail
          go_round
          case rel => exact ⟨k + 1, by omega, by go_num, HK1⟩
          case measure => simp [intOf]; omega
      · have HM : Hid (mayB L = true) := by
          refine mayB_iff.2 ⟨by omega, ?_⟩
          have := HK.out
          rwa [List.take_of_length_le (by omega)] at this
        go_wp2_with fail
        go_ret
        exact ⟨by rw [HM.out]; rfl, rfl⟩
set_option maxRecDepth 100000 in
set_option maxHeartbeats 1000000 in
theorem refRight_any (k : Ky) (w : World) (h : KLies k w) :
    Calls Try.prog 16 #[k.val] w fun e w' => e = .returned (.bool (rightB k.L k.f k.g)) ∧ Below w.heap.size w w' := by
  obtain ⟨v, L, f, g⟩ := k
  obtain ⟨hr, f1, f2, g1, g2⟩ := h
  simp only at hr f1 f2 g1 g2
  obtain ⟨a, cap, rfl, hm⟩ := hr.form
  unfold Ky.val
  simp only
  have hr1 : SReads (w.alloc (.cells #[.slice a L.length cap, .int .i64 f, .int .i64 g] 24)) (.slice a L.length cap) L := hr.below ((Below.refl _ _).alloc (Nat.le_refl _) _)
  have HB : Hid (Below w.heap.size w (w.alloc (.cells #[.slice a L.length cap, .int .i64 f, .int .i64 g] 24))) := (Below.refl _ _).alloc (Nat.le_refl _) _
  have HR : Hid (rightB L f g = (mayB L && decide (0 ≤ f ∧ f ≤ 1099511627776 ∧ 0 ≤ g ∧ g ≤ 3))) := rfl
  clear hr
  go_enter Try.func16, Try.ntmps16
  go_wp2_with fail
  refine (fits_any _ L _ hr1).mono ?_
  rintro e w1 ⟨rfl, hw⟩
  subst w1
  clear hr1
  cases hmb : mayB L with
  | false =>
    have HF : Hid (rightB L f g = false) := by rw [HR.out, hmb]; rfl
    clear hmb
    go_wp2_with fail
    go_ret
    exact ⟨by rw [HF.out]; rfl, HB.out⟩
  | true =>
    by_cases hall : 0 ≤ f ∧ f ≤ 1099511627776 ∧ 0 ≤ g ∧ g ≤ 3
    · have HF : Hid (rightB L f g = true) := by unfold Hid; rw [HR.out, hmb, decide_eq_true hall]; rfl
      obtain ⟨c1, c2, c3, c4⟩ := hall
      clear HR hmb
      go_wp2_with fail
      go_ret
      exact ⟨by rw [HF.out]; rfl, HB.out⟩
    · have HF : Hid (rightB L f g = false) := by unfold Hid; rw [HR.out, hmb, decide_eq_false hall]; rfl
      clear HR hmb
      by_cases c1 : 0 ≤ f
      · by_cases c2 : f ≤ 1099511627776
        · by_cases c3 : 0 ≤ g
          · by_cases c4 : g ≤ 3
            · exfalso; exact hall ⟨c1, c2, c3, by omega⟩
            · have d4 : decide (g ≤ 3) = false := decide_eq_false c4
              clear hall
              go_wp2_with fail
              go_ret
              exact ⟨by rw [HF.out]; first | rfl | (exact ret_bool (by assumption)), HB.out⟩
          · have d3 : decide (0 ≤ g) = false := decide_eq_false c3
            clear hall
            go_wp2_with fail
            go_ret
            exact ⟨by rw [HF.out]; first | rfl | (exact ret_bool (by assumption)), HB.out⟩
        · have d2 : decide (f ≤ 1099511627776) = false := decide_eq_false c2
          clear hall
          go_wp2_with fail
          go_ret
          exact ⟨by rw [HF.out]; first | rfl | (exact ret_bool (by assumption)), HB.out⟩
      · have d1 : decide (0 ≤ f) = false := decide_eq_false c1
        clear hall
        go_wp2_with fail
        go_ret
        exact ⟨by rw [HF.out]; first | rfl | (exact ret_bool (by assumption)), HB.out⟩
set_option maxRecDepth 100000 in
set_option maxHeartbeats 1000000 in
theorem refGroup_some (b off cap : Nat) (L : List ByteArray) (hsL : ∀ s ∈ L, s.size ≤ maxLen) (hmy : mayB L = true) (hc0 : 0 < L.length) (hcap : L.length ≤ cap) (hcm : cap ≤ maxLen) (w : World) (hbw : b < w.heap.size) (hc : ∀ j (h : j < L.length), w.cell? ⟨b, off + j, none⟩ = some (.string L[j])) :
    Calls Try.prog 19 #[.slice (some ⟨b, off, none⟩) L.length cap] w fun e w' => ∃ v, e = .returned (.tuple #[v, .int .i64 0]) ∧ Own w' w.heap.size v (jn L) ∧ Below w.heap.size w w' := by
  have HC : Hid (∀ j (h : j < L.length), w.cell? ⟨b, off + j, none⟩ = some (.string L[j])) := hc
  obtain ⟨h4, h16⟩ := mayB_iff.1 hmy
  have HS : Hid (∀ s ∈ L, s.size ≤ 16) := h16
  have HSR : SReads w (.slice (some ⟨b, off, none⟩) L.length cap) L := .inr ⟨b, off, cap, rfl, hc0, hcap, hcm, hbw, hc, hsL⟩
  have HMY : Hid (mayB L = true) := hmy
  clear hc h16 hmy hsL hcm
  go_enter Try.func19, Try.ntmps19
  go_wp2_with fail
  refine (fits_any _ L _ HSR).mono ?_
  rw [HMY.out]
  rintro e w1 ⟨rfl, hw⟩
  subst w1
  clear HSR
  go_wp2_with fail
  go_loopw [4, 5] (fun x i wr => ∃ (k : Nat) (M : List UInt8), k ≤ L.length ∧ i = .int .i64 (k : Int) ∧ Hid (M = jb (L.take k)) ∧ Own wr w.heap.size x M ∧ Hid (Below w.heap.size w wr)) (fun _ i _ => L.length - (intOf i).toNat)
  case atStart => exact ⟨0, [], by omega, rfl, rfl, Own.nil _ _, Below.refl _ _⟩
  case round =>
    obtain ⟨k, M, hk, rfl, HM, HR, HB⟩ := hrel
    have hsz := HB.out.size
    have hml : M.length ≤ 140 := by
      have := jb_len (L.take k) fun s hs => HS.out s (List.mem_of_mem_take hs)
      rw [← HM.out] at this; simp at this; omega
    by_cases hlt : k < L.length
    · have hcell := (HB.out.cell (p := ⟨b, off + k, none⟩) hbw).trans (HC.out k hlt)
      have hsk := HS.out _ (List.getElem_mem hlt)
      obtain ⟨M1, HM1⟩ := hid_ex (M ++ [(1 : UInt8)])
      obtain ⟨M2, HM2⟩ := hid_ex (M1 ++ tx L[k].data.toList)
      have HE : Hid (M2 = jb (L.take (k + 1))) := by
        rw [HM2.out, HM1.out, HM.out, List.take_succ_eq_append_getElem hlt, jb_snoc, List.append_assoc]; rfl
      have hm1 : M1.length = M.length + 1 := by rw [HM1.out]; simp
      have htl : (tx L[k].data.toList).length ≤ 34 := by
        have := tx_len L[k].data.toList
        have h4 : L[k].data.toList.length = L[k].size := Array.length_toList
        omega
      generalize L[k] = s at *
      have hss : s.size ≤ 10000 := by omega
      go_wp2_with (at_builtin; refine wpList_app1 rfl _ _ rfl w.heap.size _ M 1 M1 HM1.out rfl rfl rfl HR (by omega) hsz ?_)
      intro v1 w1 HR1 hb1
      have HB1 : Hid (Below w.heap.size w w1) := HB.out.trans hb1.out
      have hsz1 := HB1.out.size
      have hcell1 := (hb1.out.cell (p := ⟨b, off + k, none⟩) hbw).trans hcell
      clear hb1 HR hcell HB hsz
      go_wp2_with fail
      refine (refText_any s hss _).mono ?_
      rintro e w2 ⟨vt, rfl, hot, hb2⟩
      have HB2 : Hid (Below w.heap.size w w2) := HB1.out.trans (hb2.mono hsz1)
      have HR2 : Own w2 w.heap.size v1 M1 := HR1.below hb2
      have hrt : Reads w2 vt (tx s.data.toList) := reads_own hot
      have hsz2 := HB2.out.size
      clear hb2 HR1 hot HB1 hsz1
      go_wp2_with (at_builtin; refine wpList_app rfl _ _ rfl w.heap.size _ _ M1 (tx s.data.toList) M2 HM2.out rfl rfl HR2 hrt (by omega) hsz2 ?_)
      intro v3 w3 HR3 hb3
      have HB3 : Hid (Below w.heap.size w w3) := HB2.out.trans hb3.out
      clear hb3 HR2 HB2 hsz2 hrt
      go_wp2_with fail
      go_roundw
      case rel => exact ⟨k + 1, M2, by omega, by go_num, HE, HR3, HB3⟩
      case measure => simp [intOf]; omega
    · obtain ⟨M1, HM1⟩ := hid_ex (M ++ [(0 : UInt8)])
      have HE : Hid (M1 = jn L) := by
        rw [HM1.out, HM.out, List.take_of_length_le (by omega)]; rfl
      go_wp2_with (at_builtin; refine wpList_app1 rfl _ _ rfl w.heap.size _ M 0 M1 HM1.out rfl rfl rfl HR (by omega) hsz ?_)
      intro v1 w1 HR1 hb1
      have HB1 : Hid (Below w.heap.size w w1) := HB.out.trans hb1.out
      clear hb1 HR HB
      go_wp2_with fail
      go_ret2
      exact ⟨_, rfl, by rw [← HE.out]; exact HR1, HB1.out⟩
set_option maxRecDepth 100000 in
set_option maxHeartbeats 1000000 in
theorem refGroup_none (a : Option Addr) (cap : Nat) (hn : a = none → cap = 0) (w : World) :
    Calls Try.prog 19 #[.slice a 0 cap] w fun e w' => ∃ v, e = .returned (.tuple #[v, .int .i64 0]) ∧ Own w' w.heap.size v (jn []) ∧ Below w.heap.size w w' := by
  go_enter Try.func19, Try.ntmps19
  go_wp2_with fail
  refine (fits_any _ [] _ (.inl ⟨rfl, a, cap, rfl, hn⟩)).mono ?_
  rw [show mayB [] = true by decide]
  rintro e w1 ⟨rfl, hw⟩
  subst w1
  go_wp2_with fail
  go_loop [4, 5] (fun x i => i = .int .i64 0 ∧ x = .slice none 0 0) (fun _ _ => 0)
  case atStart => exact ⟨rfl, rfl⟩
  case round =>
    obtain ⟨rfl, rfl⟩ := hrel
    go_wp2_with (at_builtin; refine wpList_app1 rfl _ _ rfl w.heap.size _ [] 0 (jn []) rfl rfl rfl rfl (Own.nil _ _) (by simp) (Nat.le_refl _) ?_)
    intro v1 w1 HR1 hb1
    go_wp2_with fail
    go_ret2
    exact ⟨_, rfl, HR1, hb1.out⟩
theorem refGroup_yes (v : Value) (L : List ByteArray) (hm : mayB L = true) (w : World) (h : SReads w v L) :
    Calls Try.prog 19 #[v] w fun e w' => ∃ v, e = .returned (.tuple #[v, .int .i64 0]) ∧ Own w' w.heap.size v (jn L) ∧ Below w.heap.size w w' := by
  rcases h with ⟨rfl, a, cap, rfl, hn⟩ | ⟨b, off, cap, rfl, h2, h3, h4, h5, h6, h7⟩
  · exact refGroup_none a cap hn w
  · exact refGroup_some b off cap L h7 hm h2 h3 h4 w h5 h6
theorem refGroup_no (v : Value) (L : List ByteArray) (hm : mayB L = false) (w : World) (h : SReads w v L) :
    Calls Try.prog 19 #[v] w fun e w' => e = .returned (.tuple #[.slice none 0 0, .int .i64 40]) ∧ w' = w := by
  go_enter Try.func19, Try.ntmps19
  go_wp2_with fail
  refine (fits_any _ L _ h).mono ?_
  rintro e w1 ⟨rfl, hw⟩
  subst w1
  rw [hm]
  clear h hm
  go_wp2_with fail
  go_ret2
  exact ⟨rfl, rfl⟩
set_option maxRecDepth 100000 in
set_option maxHeartbeats 1000000 in
theorem refPart_any (v : Value) (L : List ByteArray) (hL : L.length ≤ 1000) (m : Nat) (hm : m < 9223372036854775808) (w : World) (h : SReads w v L) :
    Calls Try.prog 21 #[v, .int .i64 (m : Int)] w fun e w' => ∃ v', e = .returned (.tuple #[v', .int .i64 0]) ∧ SOwn w' w.heap.size v' (pt L m) ∧ Below w.heap.size w w' := by
  obtain ⟨a, cap, rfl, _⟩ := h.form
  have HR : Hid (SReads w (.slice a L.length cap) L) := h
  clear h
  go_enter Try.func21, Try.ntmps21
  go_wp2_with fail
  go_loopw [1, 6, 7] (fun q x i wr => ∃ (k : Nat) (M : List ByteArray), k ≤ L.length ∧ i = .int .i64 (k : Int) ∧ q = .int .i64 ((m / 2 ^ k : Nat) : Int) ∧ Hid (M = pt (L.take k) m) ∧ SOwn wr w.heap.size x M ∧ Hid (Below w.heap.size w wr)) (fun _ _ i _ => L.length - (intOf i).toNat)
  case atStart => exact ⟨0, [], by omega, rfl, by simp, by rw [List.take_zero]; rfl, SOwn.nil _ _, Below.refl _ _⟩
  case round =>
    obtain ⟨k, M, hk, rfl, rfl, HM, HO, HB⟩ := hrel
    have hsz := HB.out.size
    by_cases hlt : k < L.length
    · have hq2 : m / 2 ^ (k + 1) = m / 2 ^ k / 2 := by rw [Nat.pow_succ, Nat.div_div_eq_div_mul]
      have hqb : m / 2 ^ k < 9223372036854775808 := Nat.lt_of_le_of_lt (Nat.div_le_self _ _) hm
      have HQ2 : Hid (m / 2 ^ (k + 1) = m / 2 ^ k / 2) := hq2
      clear hq2
      have HSN : Hid (pt (L.take (k + 1)) m = M ++ (if m / 2 ^ k % 2 = 1 then [L[k]] else [])) := by
        have e : (L.take k).length = k := by simp; omega
        rw [List.take_succ_eq_append_getElem hlt, pt_snoc, e, ← HM.out]; rfl
      rcases Nat.mod_two_eq_zero_or_one (m / 2 ^ k) with h2 | h2
      · have HE : Hid (M = pt (L.take (k + 1)) m) := by rw [HSN.out, if_neg (by omega), List.append_nil]; rfl
        have y0 : ((m / 2 ^ k : Nat) : Int) % 2 = 0 := by omega
        clear h2 HSN HM
        generalize m / 2 ^ k = q at *
        go_wp2_with fail
        go_roundw
        case rel => exact ⟨k + 1, M, by omega, by go_num, by rw [HQ2.out]; go_num, HE, HO, HB⟩
        case measure => simp [intOf]; omega
      · obtain ⟨M1, HM1⟩ := hid_ex (M ++ [L[k]])
        have HE : Hid (M1 = pt (L.take (k + 1)) m) := by rw [HSN.out, if_pos h2, HM1.out]; rfl
        obtain ⟨b, off, rfl, hbw, hc⟩ := HR.out.at k hlt
        have hcell := (HB.out.cell (p := ⟨b, off + k, none⟩) hbw).trans hc
        have hys : L[k].size ≤ maxLen := HR.out.size _ (List.getElem_mem hlt)
        have hml : M.length ≤ 1000 := by
          have := pt_len (L.take k) m
          rw [← HM.out] at this
          simp at this; omega
        have y0 : ((m / 2 ^ k : Nat) : Int) % 2 = 1 := by omega
        clear h2 HSN hc HM
        generalize m / 2 ^ k = q at *
        go_wp2_with (at_builtin; refine wpList_sapp1 rfl _ _ rfl w.heap.size _ M M1 HM1.out hys rfl rfl HO (by omega) hsz ?_)
        intro v' w1 HO1 hb1
        have HB1 : Hid (Below w.heap.size w w1) := HB.out.trans hb1.out
        clear hb1 HO hcell HB HM1
        go_wp2_with fail
        go_roundw
        case rel => exact ⟨k + 1, M1, by omega, by go_num, by rw [HQ2.out]; go_num, HE, HO1, HB1⟩
        case measure => simp [intOf]; omega
    · have HE : Hid (M = pt L m) := by rw [HM.out, List.take_of_length_le (by omega)]; rfl
      go_wp2_with fail
      go_ret2
      exact ⟨_, rfl, by rw [← HE.out]; exact HO, HB.out⟩
theorem refPart_neg (v : Value) (m : Int) (hm : m < 0) (w : World) :
    Calls Try.prog 21 #[v, .int .i64 m] w fun e w' => e = .returned (.tuple #[.slice none 0 0, .int .i64 1]) ∧ w' = w := by
  go_enter Try.func21, Try.ntmps21
  go_wp2_with fail
  go_ret2
  exact ⟨rfl, rfl⟩
set_option maxRecDepth 100000 in
set_option maxHeartbeats 1000000 in
theorem refLess_any (a b : Ky) (w : World) (ha : KLies a w) (hb : KLies b w) :
    Calls Try.prog 23 #[a.val, b.val] w fun e w' => e = .returned (.bool (lessK a b)) ∧ Below w.heap.size w w' := by
  obtain ⟨a1, c1, hv1, _⟩ := ha.r.form
  obtain ⟨a2, c2, hv2, _⟩ := hb.r.form
  have HA := ha.r
  have HB := hb.r
  obtain ⟨v, L, f, g⟩ := a
  obtain ⟨v', L', f', g'⟩ := b
  simp only at hv1 hv2 HA HB
  subst hv1 hv2
  unfold Ky.val
  simp only
  obtain ⟨W, HW⟩ := hid_ex ((w.alloc (.cells #[.slice a1 L.length c1, .int .i64 f, .int .i64 g] 24)).alloc (.cells #[.slice a2 L'.length c2, .int .i64 f', .int .i64 g'] 24))
  have HE : Hid (lessK ⟨.slice a1 L.length c1, L, f, g⟩ ⟨.slice a2 L'.length c2, L', f', g'⟩ = decide (cmpL L L' < 0 ∨ cmpL L L' = 0 ∧ (f < f' ∨ f = f' ∧ g < g'))) := by unfold Hid lessK; apply decide_eq_decide.2; rw [or3_neg]
  have HBW : Hid (Below w.heap.size w W) := by rw [HW.out]; exact box2_below (Below.refl _ _)
  have HA1 := HA.below HBW.out
  have HB1 := HB.below HBW.out
  have HX : Hid (Below (w.heap.size + 2) ((w.alloc (.cells #[.slice a1 L.length c1, .int .i64 f, .int .i64 g] 24)).alloc (.cells #[.slice a2 L'.length c2, .int .i64 f', .int .i64 g'] 24)) W) := by rw [HW.out]; exact Below.refl _ _
  have HZ : Hid (w.heap.size + 2 ≤ W.heap.size) := by have := HX.out.size; unfold Hid; simpa using this
  clear ha hb HA HB
  go_enter Try.func23, Try.ntmps23
  go_wp2_with fail
  rw [← HW.out]
  refine (order_any _ _ L L' _ HA1 HB1).mono ?_
  rintro e w2 ⟨rfl, hb2⟩
  have HX2 : Hid _ := HX.out.trans (hb2.mono HZ.out)
  have HB2 : Hid (Below w.heap.size w w2) := HBW.out.trans (hb2.mono HBW.out.size)
  obtain ⟨⟨k0, k1, k2⟩, k3, k4, k5⟩ := kbox2 HX2.out
  clear hb2 HA1 HB1 HX HX2 HW
  generalize cmpL L L' = p at *
  by_cases p0 : p = 0
  · have i0 : (p == 0) = true := by simpa using p0
    by_cases p1 : f < f'
    · have HF : Hid (lessK ⟨.slice a1 L.length c1, L, f, g⟩ ⟨.slice a2 L'.length c2, L', f', g'⟩ = true) := by unfold Hid; rw [HE.out, decide_eq_true (by omega)]
      clear HE p0
      go_wp2_with fail
      go_ret
      exact ⟨by rw [HF.out]; first | rfl | (exact ret_bool (by simp [*])), HB2.out⟩
    · by_cases p2 : f = f'
      · have i2 : (f == f') = true := by simpa using p2
        by_cases p3 : g < g'
        · have HF : Hid (lessK ⟨.slice a1 L.length c1, L, f, g⟩ ⟨.slice a2 L'.length c2, L', f', g'⟩ = true) := by unfold Hid; rw [HE.out, decide_eq_true (by omega)]
          clear HE p0 p2
          go_wp2_with fail
          go_ret
          exact ⟨by rw [HF.out]; first | rfl | (exact ret_bool (by simp [*])), HB2.out⟩
        · have HF : Hid (lessK ⟨.slice a1 L.length c1, L, f, g⟩ ⟨.slice a2 L'.length c2, L', f', g'⟩ = false) := by unfold Hid; rw [HE.out, decide_eq_false (by omega)]
          have d3 : decide (g < g') = false := decide_eq_false p3
          clear HE p0 p2
          go_wp2_with fail
          go_ret
          exact ⟨by rw [HF.out]; first | rfl | (exact ret_bool (by simp [*])), HB2.out⟩
      · have HF : Hid (lessK ⟨.slice a1 L.length c1, L, f, g⟩ ⟨.slice a2 L'.length c2, L', f', g'⟩ = false) := by unfold Hid; rw [HE.out, decide_eq_false (by omega)]
        have i2 : (f == f') = false := by simpa using p2
        clear HE p0 p2
        go_wp2_with fail
        go_ret
        exact ⟨by rw [HF.out]; first | rfl | (exact ret_bool (by simp [*])), HB2.out⟩
  · have i0 : (p == 0) = false := by simpa using p0
    by_cases p4 : p < 0
    · have HF : Hid (lessK ⟨.slice a1 L.length c1, L, f, g⟩ ⟨.slice a2 L'.length c2, L', f', g'⟩ = true) := by unfold Hid; rw [HE.out, decide_eq_true (by omega)]
      clear HE p0
      go_wp2_with fail
      go_ret
      exact ⟨by rw [HF.out]; first | rfl | (exact ret_bool (by simp [*])), HB2.out⟩
    · have HF : Hid (lessK ⟨.slice a1 L.length c1, L, f, g⟩ ⟨.slice a2 L'.length c2, L', f', g'⟩ = false) := by unfold Hid; rw [HE.out, decide_eq_false (by omega)]
      have d3 : decide (p < 0) = false := decide_eq_false p4
      clear HE p0
      go_wp2_with fail
      go_ret
      exact ⟨by rw [HF.out]; first | rfl | (exact ret_bool (by simp [*])), HB2.out⟩
end Go.Proofs.Ytbcdmammedabmaa
