/- H2 H3 C3r K12 C5r, joined. -/
import Derived.Test.YtoenijflijfogaaGreatRH14
import Derived.Test.YtoenijflijfogaaGreatRH15
import Derived.Test.YtoenijflijfogaaGreatRH16
import Derived.Test.YtoenijflijfogaaGreatRH36
/- The contracts of the reference's May, Step, Bucket, Expired and End. -/
namespace Go.Proofs.YtoenijflijfogaaGreat
open Go.RowKit

end Go.Proofs.YtoenijflijfogaaGreat

/- The contracts of the reference's Bucket, Expired and End. -/
namespace Go.Proofs.YtoenijflijfogaaGreat
open Go.RowKit

end Go.Proofs.YtoenijflijfogaaGreat

/- The contracts of the reference's Text and ReadText. -/
namespace Go.Proofs.YtoenijflijfogaaGreat
open Go.RowKit

set_option maxRecDepth 100000 in
set_option maxHeartbeats 1000000 in
theorem refText_any (s : ByteArray) (hs : s.size ≤ 10000) (w : World) :
    Calls Tryz.prog 77 #[.string s] w fun e w' => ∃ v, e = .returned v ∧ w'.ownsRow w.heap.size 5 1 v (tx s.data.toList).length ((tx s.data.toList).map bc) ∧ Below w.heap.size w w' := by
  obtain ⟨i0, hi, hz0, hz1, hz2⟩ := info_parts info5
  have hsl : s.data.toList.length = s.size := Array.length_toList
  have HO0 : Hid (w.ownsRow w.heap.size 5 1 (.slice none 0 0) (txb (s.data.toList.take 0)).length ((txb (s.data.toList.take 0)).map bc)) := World.ownsRow_nil _ _ _ _
  have HB0 : Hid (Below w.heap.size w w) := Below.refl _ _
  go_enter Tryz.func77, Tryz.ntmps77
  go_wp2_with fail
  go_loopw [3, 4] (fun v i wr => ∃ k : Nat, k ≤ s.size ∧ i = .int .i64 (k : Int) ∧ wr.ownsRow w.heap.size 5 1 v (txb (s.data.toList.take k)).length ((txb (s.data.toList.take k)).map bc) ∧ Below w.heap.size w wr) (fun _ i _ => s.size - (intOf i).toNat)
  case atStart => exact ⟨0, by omega, rfl, HO0.out, HB0.out⟩
  case round =>
    obtain ⟨k, hk, rfl, hown, hbr⟩ := hrel
    have hlen := txb_len (s.data.toList.take k)
    have htk : (s.data.toList.take k).length ≤ k := List.length_take_le _ _
    have hsz := hbr.size
    by_cases hlt : k < s.size
    · have hsn := txb_snoc s.data.toList k (by omega)
      have hxe : s[k] = s.data.toList[k]'(by omega) := rfl
      rw [← hxe] at hsn
      have HSN : Hid _ := hsn
      have HHL : Hid (s.data.toList.length = s.size) := hsl
      clear hsn hxe hsl
      generalize hx : s[k] = x at *
      generalize s.data.toList.take k = L at *
      by_cases hx0 : x.toNat = 0
      · have HX : Hid (x.toNat = 0) := hx0
        have i5 : ((x.toNat : Int) == 0) = true := by simp [hx0]
        have i6 : bc x = .int .u8 0 := by unfold bc; rw [hx0]; rfl
        have HBC : Hid (bc x = .int .u8 0) := i6
        clear hx0 i6
        go_wp2_with (at_builtin; refine wpList_append_own _ rfl _ _ 58 rfl w.heap.size 5 i0 (.int .u8 0) 1 1 Tryz.underlying58 hi hz0 hz1 hz2 rfl (by decide) _ _ _ rfl (hown.alloc _) ⟨wr.heap.size, 0, none⟩ 1 1 [.int .u8 (x.toNat : Int)] rfl rfl news1 one1 (len_ok (by omega)).1 (len_ok (by omega)).2 (al_ok hsz) ?_)
        intro v' w1 hown' hgrow _
        have HO1 : Hid (w1.ownsRow w.heap.size 5 1 v' ((txb L).length + 1) ((txb L).map bc ++ [bc x])) := hown'
        have HB1 : Hid (Below w.heap.size w w1) := (hbr.alloc hbr.size _).grown hgrow (al_ok hsz) (own_block hown)
        have hown1 : w1.ownsRow w.heap.size 5 1 v' ((txb L).length + 1) ((txb L).map bc ++ [bc x]) := HO1.out
        have hsz1 := HB1.out.size
        clear hown hown' hgrow hbr hsz
        go_wp2_with (at_builtin; refine wpList_append_own _ rfl _ _ 58 rfl w.heap.size 5 i0 (.int .u8 0) 1 1 Tryz.underlying58 hi hz0 hz1 hz2 rfl (by decide) _ _ _ rfl (hown1.alloc _) ⟨w1.heap.size, 0, none⟩ 1 1 [.int .u8 255] rfl rfl news1 one1 (len_ok (by omega)).1 (len_ok (by omega)).2 (al_ok hsz1) ?_)
        intro v2 w2 hown2 hgrow2 _
        have HO2 : Hid (w2.ownsRow w.heap.size 5 1 v2 (txb (s.data.toList.take (k + 1))).length ((txb (s.data.toList.take (k + 1))).map bc)) := by
          rw [HSN.out, if_pos HX.out, List.map_append, List.length_append]
          have e : ((txb L).map bc ++ [x, 255].map bc) = (txb L).map bc ++ [bc x, .int .u8 255] := rfl
          have e2 : (txb L).length + [x, 255].length = (txb L).length + 1 + 1 := rfl
          rw [e, e2]
          exact hown2
        have HB2 : Hid (Below w.heap.size w w2) := (HB1.out.alloc HB1.out.size _).grown hgrow2 (al_ok hsz1) (own_block hown1)
        clear hown1 hown2 hgrow2 hsz1 HO1 HB1
        go_wp2_with fail
        go_roundw
        case rel => exact ⟨k + 1, by omega, by go_num, HO2.out, HB2.out⟩
        case measure => simp [intOf]; omega
      · have HX : Hid (¬ x.toNat = 0) := hx0
        have i5 : ((x.toNat : Int) == 0) = false := by simp; omega
        clear hx0
        go_wp2_with (at_builtin; refine wpList_append_own _ rfl _ _ 58 rfl w.heap.size 5 i0 (.int .u8 0) 1 1 Tryz.underlying58 hi hz0 hz1 hz2 rfl (by decide) _ _ _ rfl (hown.alloc _) ⟨wr.heap.size, 0, none⟩ 1 1 [.int .u8 (x.toNat : Int)] rfl rfl news1 one1 (len_ok (by omega)).1 (len_ok (by omega)).2 (al_ok hsz) ?_)
        intro v' w1 hown' hgrow _
        have HO2 : Hid (w1.ownsRow w.heap.size 5 1 v' (txb (s.data.toList.take (k + 1))).length ((txb (s.data.toList.take (k + 1))).map bc)) := by
          rw [HSN.out, if_neg HX.out, List.map_append, List.length_append]
          exact hown'
        have HB2 : Hid (Below w.heap.size w w1) := (hbr.alloc hbr.size _).grown hgrow (al_ok hsz) (own_block hown)
        clear hown hown' hgrow hbr hsz
        go_wp2_with fail
        go_roundw
        case rel => exact ⟨k + 1, by omega, by go_num, HO2.out, HB2.out⟩
        case measure => simp [intOf]; omega
    · have hke : k = s.size := by omega
      subst hke
      have HTK : Hid (s.data.toList.take s.size = s.data.toList) := List.take_of_length_le (by omega)
      clear hsl
      generalize s.data.toList.take s.size = L at *
      go_wp2_with (at_builtin; refine wpList_append_own _ rfl _ _ 58 rfl w.heap.size 5 i0 (.int .u8 0) 1 1 Tryz.underlying58 hi hz0 hz1 hz2 rfl (by decide) _ _ _ rfl (hown.alloc _) ⟨wr.heap.size, 0, none⟩ 2 2 [.int .u8 0, .int .u8 1] rfl rfl news2 one2 (len_ok (by omega)).1 (len_ok (by omega)).2 (al_ok hsz) ?_)
      intro v' w1 hown' hgrow _
      have HO2 : Hid (w1.ownsRow w.heap.size 5 1 v' (tx s.data.toList).length ((tx s.data.toList).map bc)) := by
        unfold tx
        rw [← HTK.out, List.map_append, List.length_append]
        exact hown'
      have HB2 : Hid (Below w.heap.size w w1) := (hbr.alloc hbr.size _).grown hgrow (al_ok hsz) (own_block hown)
      clear hown hown' hgrow hbr hsz
      go_wp2_with fail
      go_ret
      exact ⟨_, rfl, HO2.out, HB2.out⟩
end Go.Proofs.YtoenijflijfogaaGreat

/- The contracts of the reference's Fits, Right, Group, Part and Less. -/
namespace Go.Proofs.YtoenijflijfogaaGreat
open Go.RowKit

set_option maxRecDepth 100000 in
set_option maxHeartbeats 1000000 in
theorem fits_anyK (v : Value) (L : List ByteArray) (w : World) (h : SReads w v L) :
    Calls Tryz.prog 27 #[v] w fun e w' => e = .returned (.bool (mayB L)) ∧ w' = w := by
  obtain ⟨a, cap, rfl, hl⟩ := h.form
  unfold maxLen at hl
  have HR : Hid (SReads w (.slice a L.length cap) L) := h
  clear h
  by_cases h4 : 4 < L.length
  · have HM : Hid (mayB L = false) := mayB_no (by omega)
    have i1 : (4 : Int) < (L.length : Int) := by omega
    clear h4
    go_enter Tryz.func27, Tryz.ntmps27
    go_wp2_with fail
    go_ret
    exact ⟨by rw [HM.out]; rfl, rfl⟩
  · have i1 : ¬ (4 : Int) < (L.length : Int) := by omega
    go_enter Tryz.func27, Tryz.ntmps27
    go_wp2_with fail
    go_loop [3] (fun i => ∃ k : Nat, k ≤ L.length ∧ i = .int .i64 k ∧ Hid (∀ s ∈ L.take k, s.size ≤ 16)) (fun i => L.length - (intOf i).toNat)
    case atStart => exact ⟨0, Nat.zero_le _, rfl, by intro s hs; simp at hs⟩
    case round =>
      obtain ⟨k, hk, rfl, HK⟩ := hrel
      by_cases hlt : k < L.length
      · obtain ⟨b, off, rfl, _, hcell⟩ := HR.out.at k hlt
        have hsz : L[k].size ≤ maxLen := HR.out.size _ (List.getElem_mem hlt)
        unfold maxLen at hsz
        by_cases h16 : 16 < L[k].size
        · have HM : Hid (mayB L = false) := mayB_no (by intro h; have := h.2 _ (List.getElem_mem hlt); omega)
          have i2 : (16 : Int) < (L[k].size : Int) := by omega
          go_wp2_with fail
          go_ret
          exact ⟨by rw [HM.out]; rfl, rfl⟩
        · have i2 : ¬ (16 : Int) < (L[k].size : Int) := by omega
          have HK1 : Hid (∀ s ∈ L.take (k + 1), s.size ≤ 16) := by
            intro s hs
            rw [List.take_succ_eq_append_getElem hlt] at hs
            rcases List.mem_append.1 hs with hs | hs
            · exact HK.out s hs
            · simp at hs; subst hs; omega
          go_wp2_with fail
          go_round
          case rel => exact ⟨k + 1, by omega, by go_num, HK1⟩
          case measure => simp [intOf]; omega
      · have HM : Hid (mayB L = true) := by
          refine mayB_iff.2 ⟨by omega, ?_⟩
          have := HK.out
          rwa [List.take_of_length_le (by omega)] at this
        go_wp2_with fail
        go_ret
        exact ⟨by rw [HM.out]; rfl, rfl⟩
set_option maxRecDepth 100000 in
set_option maxHeartbeats 1000000 in
theorem refRight_anyK (k : Ky) (w : World) (h : KLies k w) :
    Calls Tryz.prog 58 #[k.val] w fun e w' => e = .returned (.bool (rightBK k.L k.f k.g)) ∧ Below w.heap.size w w' := by
  obtain ⟨v, L, f, g⟩ := k
  obtain ⟨hr, f1, f2, g1, g2⟩ := h
  simp only at hr f1 f2 g1 g2
  obtain ⟨a, cap, rfl, hm⟩ := hr.form
  unfold Ky.val
  simp only
  have hr1 : SReads (w.alloc (.cells #[.slice a L.length cap, .int .i64 f, .int .i64 g] 70)) (.slice a L.length cap) L := hr.below ((Below.refl _ _).alloc (Nat.le_refl _) _)
  have HB : Hid (Below w.heap.size w (w.alloc (.cells #[.slice a L.length cap, .int .i64 f, .int .i64 g] 70))) := (Below.refl _ _).alloc (Nat.le_refl _) _
  have HR : Hid (rightBK L f g = (mayB L && decide (0 ≤ f ∧ f ≤ 1099511627776 ∧ 0 ≤ g ∧ g ≤ 3))) := rfl
  clear hr
  go_enter Tryz.func58, Tryz.ntmps58
  go_wp2_with fail
  refine (fits_anyK _ L _ hr1).mono ?_
  rintro e w1 ⟨rfl, hw⟩
  subst w1
  clear hr1
  cases hmb : mayB L with
  | false =>
    have HF : Hid (rightBK L f g = false) := by rw [HR.out, hmb]; rfl
    clear hmb
    go_wp2_with fail
    go_ret
    exact ⟨by rw [HF.out]; rfl, HB.out⟩
  | true =>
    by_cases hall : 0 ≤ f ∧ f ≤ 1099511627776 ∧ 0 ≤ g ∧ g ≤ 3
    · have HF : Hid (rightBK L f g = true) := by unfold Hid; rw [HR.out, hmb, decide_eq_true hall]; rfl
      obtain ⟨c1, c2, c3, c4⟩ := hall
      clear HR hmb
      go_wp2_with fail
      go_ret
      exact ⟨by rw [HF.out]; rfl, HB.out⟩
    · have HF : Hid (rightBK L f g = false) := by unfold Hid; rw [HR.out, hmb, decide_eq_false hall]; rfl
      clear HR hmb
      by_cases c1 : 0 ≤ f
      · by_cases c2 : f ≤ 1099511627776
        · by_cases c3 : 0 ≤ g
          · by_cases c4 : g ≤ 3
            · exfalso; exact hall ⟨c1, c2, c3, by omega⟩
            · have d4 : decide (g ≤ 3) = false := decide_eq_false c4
              clear hall
              go_wp2_with fail
              go_ret
              exact ⟨by rw [HF.out]; first | rfl | (exact ret_bool (by assumption)), HB.out⟩
          · have d3 : decide (0 ≤ g) = false := decide_eq_false c3
            clear hall
            go_wp2_with fail
            go_ret
            exact ⟨by rw [HF.out]; first | rfl | (exact ret_bool (by assumption)), HB.out⟩
        · have d2 : decide (f ≤ 1099511627776) = false := decide_eq_false c2
          clear hall
          go_wp2_with fail
          go_ret
          exact ⟨by rw [HF.out]; first | rfl | (exact ret_bool (by assumption)), HB.out⟩
      · have d1 : decide (0 ≤ f) = false := decide_eq_false c1
        clear hall
        go_wp2_with fail
        go_ret
        exact ⟨by rw [HF.out]; first | rfl | (exact ret_bool (by assumption)), HB.out⟩
set_option maxRecDepth 100000 in
set_option maxHeartbeats 1000000 in
theorem refGroup_some (b off cap : Nat) (L : List ByteArray) (hsL : ∀ s ∈ L, s.size ≤ maxLen) (hmy : mayB L = true) (hc0 : 0 < L.length) (hcap : L.length ≤ cap) (hcm : cap ≤ maxLen) (w : World) (hbw : b < w.heap.size) (hc : ∀ j (h : j < L.length), w.cell? ⟨b, off + j, none⟩ = some (.string L[j])) :
    Calls Tryz.prog 59 #[.slice (some ⟨b, off, none⟩) L.length cap] w fun e w' => ∃ v, e = .returned (.tuple #[v, .int .i64 0]) ∧ Own w' w.heap.size v (jn L) ∧ Below w.heap.size w w' := by
  have HC : Hid (∀ j (h : j < L.length), w.cell? ⟨b, off + j, none⟩ = some (.string L[j])) := hc
  obtain ⟨h4, h16⟩ := mayB_iff.1 hmy
  have HS : Hid (∀ s ∈ L, s.size ≤ 16) := h16
  have HSR : SReads w (.slice (some ⟨b, off, none⟩) L.length cap) L := .inr ⟨b, off, cap, rfl, hc0, hcap, hcm, hbw, hc, hsL⟩
  have HMY : Hid (mayB L = true) := hmy
  clear hc h16 hmy hsL hcm
  go_enter Tryz.func59, Tryz.ntmps59
  go_wp2_with fail
  refine (fits_anyK _ L _ HSR).mono ?_
  rw [HMY.out]
  rintro e w1 ⟨rfl, hw⟩
  subst w1
  clear HSR
  go_wp2_with fail
  go_loopw [4, 5] (fun x i wr => ∃ (k : Nat) (M : List UInt8), k ≤ L.length ∧ i = .int .i64 (k : Int) ∧ Hid (M = jb (L.take k)) ∧ Own wr w.heap.size x M ∧ Hid (Below w.heap.size w wr)) (fun _ i _ => L.length - (intOf i).toNat)
  case atStart => exact ⟨0, [], by omega, rfl, rfl, Own.nil _ _, Below.refl _ _⟩
  case round =>
    obtain ⟨k, M, hk, rfl, HM, HR, HB⟩ := hrel
    have hsz := HB.out.size
    have hml : M.length ≤ 140 := by
      have := jb_len (L.take k) fun s hs => HS.out s (List.mem_of_mem_take hs)
      rw [← HM.out] at this; simp at this; omega
    by_cases hlt : k < L.length
    · have hcell := (HB.out.cell (p := ⟨b, off + k, none⟩) hbw).trans (HC.out k hlt)
      have hsk := HS.out _ (List.getElem_mem hlt)
      obtain ⟨M1, HM1⟩ := hid_ex (M ++ [(1 : UInt8)])
      obtain ⟨M2, HM2⟩ := hid_ex (M1 ++ tx L[k].data.toList)
      have HE : Hid (M2 = jb (L.take (k + 1))) := by
        rw [HM2.out, HM1.out, HM.out, List.take_succ_eq_append_getElem hlt, jb_snoc, List.append_assoc]; rfl
      have hm1 : M1.length = M.length + 1 := by rw [HM1.out]; simp
      have htl : (tx L[k].data.toList).length ≤ 34 := by
        have := tx_len L[k].data.toList
        have h4 : L[k].data.toList.length = L[k].size := Array.length_toList
        omega
      generalize L[k] = s at *
      have hss : s.size ≤ 10000 := by omega
      go_wp2_with (at_builtin; refine wpList_app1 rfl _ _ rfl w.heap.size _ M 1 M1 HM1.out rfl rfl rfl HR (by omega) hsz ?_)
      intro v1 w1 HR1 hb1
      have HB1 : Hid (Below w.heap.size w w1) := HB.out.trans hb1.out
      have hsz1 := HB1.out.size
      have hcell1 := (hb1.out.cell (p := ⟨b, off + k, none⟩) hbw).trans hcell
      clear hb1 HR hcell HB hsz
      go_wp2_with fail
      refine (refText_any s hss _).mono ?_
      rintro e w2 ⟨vt, rfl, hot, hb2⟩
      have HB2 : Hid (Below w.heap.size w w2) := HB1.out.trans (hb2.mono hsz1)
      have HR2 : Own w2 w.heap.size v1 M1 := HR1.below hb2
      have hrt : Reads w2 vt (tx s.data.toList) := reads_own hot
      have hsz2 := HB2.out.size
      clear hb2 HR1 hot HB1 hsz1
      go_wp2_with (at_builtin; refine wpList_app rfl _ _ rfl w.heap.size _ _ M1 (tx s.data.toList) M2 HM2.out rfl rfl HR2 hrt (by omega) hsz2 ?_)
      intro v3 w3 HR3 hb3
      have HB3 : Hid (Below w.heap.size w w3) := HB2.out.trans hb3.out
      clear hb3 HR2 HB2 hsz2 hrt
      go_wp2_with fail
      go_roundw
      case rel => exact ⟨k + 1, M2, by omega, by go_num, HE, HR3, HB3⟩
      case measure => simp [intOf]; omega
    · obtain ⟨M1, HM1⟩ := hid_ex (M ++ [(0 : UInt8)])
      have HE : Hid (M1 = jn L) := by
        rw [HM1.out, HM.out, List.take_of_length_le (by omega)]; rfl
      go_wp2_with (at_builtin; refine wpList_app1 rfl _ _ rfl w.heap.size _ M 0 M1 HM1.out rfl rfl rfl HR (by omega) hsz ?_)
      intro v1 w1 HR1 hb1
      have HB1 : Hid (Below w.heap.size w w1) := HB.out.trans hb1.out
      clear hb1 HR HB
      go_wp2_with fail
      go_ret2
      exact ⟨_, rfl, by rw [← HE.out]; exact HR1, HB1.out⟩
set_option maxRecDepth 100000 in
set_option maxHeartbeats 1000000 in
theorem refGroup_none (a : Option Addr) (cap : Nat) (hn : a = none → cap = 0) (w : World) :
    Calls Tryz.prog 59 #[.slice a 0 cap] w fun e w' => ∃ v, e = .returned (.tuple #[v, .int .i64 0]) ∧ Own w' w.heap.size v (jn []) ∧ Below w.heap.size w w' := by
  go_enter Tryz.func59, Tryz.ntmps59
  go_wp2_with fail
  refine (fits_anyK _ [] _ (.inl ⟨rfl, a, cap, rfl, hn⟩)).mono ?_
  rw [show mayB [] = true by decide]
  rintro e w1 ⟨rfl, hw⟩
  subst w1
  go_wp2_with fail
  go_loop [4, 5] (fun x i => i = .int .i64 0 ∧ x = .slice none 0 0) (fun _ _ => 0)
  case atStart => exact ⟨rfl, rfl⟩
  case round =>
    obtain ⟨rfl, rfl⟩ := hrel
    go_wp2_with (at_builtin; refine wpList_app1 rfl _ _ rfl w.heap.size _ [] 0 (jn []) rfl rfl rfl rfl (Own.nil _ _) (by simp) (Nat.le_refl _) ?_)
    intro v1 w1 HR1 hb1
    go_wp2_with fail
    go_ret2
    exact ⟨_, rfl, HR1, hb1.out⟩
theorem refGroup_yes (v : Value) (L : List ByteArray) (hm : mayB L = true) (w : World) (h : SReads w v L) :
    Calls Tryz.prog 59 #[v] w fun e w' => ∃ v, e = .returned (.tuple #[v, .int .i64 0]) ∧ Own w' w.heap.size v (jn L) ∧ Below w.heap.size w w' := by
  rcases h with ⟨rfl, a, cap, rfl, hn⟩ | ⟨b, off, cap, rfl, h2, h3, h4, h5, h6, h7⟩
  · exact refGroup_none a cap hn w
  · exact refGroup_some b off cap L h7 hm h2 h3 h4 w h5 h6
end Go.Proofs.YtoenijflijfogaaGreat

/- The contracts of the reference's Number and ReadNumber. -/
namespace Go.Proofs.YtoenijflijfogaaGreat
open Go.RowKit

theorem nb_get (v : Int) (k : Nat) (h : k < 8) : (nb v)[k]'(by rw [nb_len]; exact h) = UInt8.ofNat (byteOf (v + 9223372036854775808) k).toNat := by
  have e1 : k / 8 = 0 := by omega
  have e2 : k % 8 = k := by omega
  unfold nb eight bytesTo
  simp [e1, e2]
theorem nb_snoc (v : Int) (k : Nat) (h : k < 8) : (nb v).take (k + 1) = (nb v).take k ++ [UInt8.ofNat (byteOf (v + 9223372036854775808) k).toNat] := by
  rw [List.take_succ_eq_append_getElem (by rw [nb_len]; exact h), nb_get v k h]
theorem worth_eq (k : Nat) (h : k < 8) : (72057594037927936 / 256 ^ k : Nat) = 2 ^ (8 * (7 - k)) := by
  match k, h with
  | 0, _ => decide
  | 1, _ => decide
  | 2, _ => decide
  | 3, _ => decide
  | 4, _ => decide
  | 5, _ => decide
  | 6, _ => decide
  | 7, _ => decide
theorem worth_next (k : Nat) : (72057594037927936 / 256 ^ k / 256 : Nat) = 72057594037927936 / 256 ^ (k + 1) := by
  rw [Nat.div_div_eq_div_mul, Nat.pow_succ]
set_option maxRecDepth 100000 in
set_option maxHeartbeats 1000000 in
theorem refNumber_any (v : Int) (h1 : -9223372036854775808 ≤ v) (h2 : v ≤ 9223372036854775807) (w : World) :
    Calls Tryz.prog 60 #[.int .i64 v] w fun e w' => ∃ x, e = .returned x ∧ w'.ownsRow w.heap.size 5 1 x 8 ((nb v).map bc) ∧ Below w.heap.size w w' := by
  obtain ⟨i0, hi, hz0, hz1, hz2⟩ := info_parts info5
  obtain ⟨U, hU⟩ : ∃ U, U = v + 9223372036854775808 := ⟨_, rfl⟩
  have hu : IntKind.u64.wrap (IntKind.u64.wrap v + 9223372036854775808) = U := by rw [IntKind.wrap_u64, IntKind.wrap_u64]; omega
  have u1 : 0 ≤ U := by omega
  have u2 : U < 18446744073709551616 := by omega
  have HU : Hid (v + 9223372036854775808 = U) := hU.symm
  clear hU h1 h2
  go_enter Tryz.func60, Tryz.ntmps60
  go_wp2_with fail
  go_loopw [3, 5, 6] (fun x wo i wr => ∃ k : Nat, k ≤ 8 ∧ i = .int .i64 (k : Int) ∧ wo = .int .u64 ((72057594037927936 / 256 ^ k : Nat) : Int) ∧ wr.ownsRow w.heap.size 5 1 x k (((nb v).take k).map bc) ∧ Below w.heap.size w wr) (fun _ _ i _ => 8 - (intOf i).toNat)
  case atStart => exact ⟨0, by omega, rfl, rfl, World.ownsRow_nil _ _ _ _, Below.refl _ _⟩
  case round =>
    obtain ⟨k, hk, rfl, rfl, hown, hbr⟩ := hrel
    have hsz := hbr.size
    clear hu
    by_cases hlt : k < 8
    · have HSN : Hid _ := nb_snoc v k hlt
      have hwe := worth_eq k hlt
      have hwn := worth_next k
      have hby := byteOf_bd U k
      have hbe : byteOf U k = U / ((72057594037927936 / 256 ^ k : Nat) : Int) % 256 := by
        unfold byteOf; rw [hwe, Int.natCast_pow]; rfl
      have hpos : 0 < (72057594037927936 / 256 ^ k : Nat) := by rw [hwe]; exact Nat.pow_pos (by omega)
      have hle : (72057594037927936 / 256 ^ k : Nat) ≤ 72057594037927936 := Nat.div_le_self _ _
      generalize hq : (72057594037927936 / 256 ^ k : Nat) = q at *
      generalize hq1 : (72057594037927936 / 256 ^ (k + 1) : Nat) = q1 at *
      have hq0 : (q : Int) ≠ 0 := by omega
      have et : Int.tdiv U (q : Int) = U / (q : Int) := Int.tdiv_eq_ediv_of_nonneg u1
      have d1 : 0 ≤ U / (q : Int) := Int.ediv_nonneg u1 (by omega)
      have d2 : U / (q : Int) ≤ U := Int.ediv_le_self _ u1
      have hwq : (q : Int) / 256 = (q1 : Int) := by omega
      have hm : ((nb v).take k).length = k := by simp [nb_len]; omega
      have HBB : Hid (0 ≤ byteOf U k ∧ byteOf U k ≤ 255) := hby
      have HBE : Hid (byteOf U k = U / (q : Int) % 256) := hbe
      clear hwe hwn hby hbe
      go_wp2_with (at_builtin; refine wpList_append_own _ rfl _ _ 58 rfl w.heap.size 5 i0 (.int .u8 0) 1 1 Tryz.underlying58 hi hz0 hz1 hz2 rfl (by decide) _ _ _ rfl (hown.alloc _) ⟨wr.heap.size, 0, none⟩ 1 1 [.int .u8 (U / (q : Int) % 256)] rfl rfl news1 one1 (len_ok (by omega)).1 (len_ok (by omega)).2 (al_ok hsz) ?_)
      intro v' w1 hown' hgrow _
      have HO2 : Hid (w1.ownsRow w.heap.size 5 1 v' (k + 1) (((nb v).take (k + 1)).map bc)) := by
        rw [HSN.out, HU.out, List.map_append, List.map_take]
        simp only [List.map_cons, List.map_nil]
        have hb := HBB.out
        rw [bc_of (by omega), Int.toNat_of_nonneg hb.1, HBE.out]
        exact hown'
      have HB2 : Hid (Below w.heap.size w w1) := (hbr.alloc hbr.size _).grown hgrow (al_ok hsz) (own_block hown)
      clear hown hown' hgrow hbr hsz HSN HBB HBE et d1 d2
      go_wp2_with fail
      go_roundw
      case rel => exact ⟨k + 1, by omega, by go_num, by rw [hq1], HO2.out, HB2.out⟩
      case measure => simp [intOf]; omega
    · have hke : k = 8 := by omega
      subst hke
      have e : (nb v).take 8 = nb v := List.take_of_length_le (by rw [nb_len]; omega)
      rw [e] at hown
      have HO2 : Hid _ := hown
      have HB2 : Hid (Below w.heap.size w wr) := hbr
      clear hown hbr e
      generalize (72057594037927936 / 256 ^ 8 : Nat) = q at *
      go_wp2_with fail
      go_ret
      exact ⟨_, rfl, HO2.out, HB2.out⟩

end Go.Proofs.YtoenijflijfogaaGreat
