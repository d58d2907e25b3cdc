/- C3 C4 W10 W11 W12, joined. -/
import Derived.Test.YthicmbjiblbcmaaGreatTQ7
import Derived.Test.YthicmbjiblbcmaaGreatTQ16
import Derived.Laws.MakeOwn
import Derived.Laws.BitsAllLaws
/- The contract of code.Text: a text in order. -/
namespace Go.Proofs.YthicmbjiblbcmaaGreat
open Go.RowKit

/-- A text's bytes in order, ahead of its end. -/
def txb : List UInt8 → List UInt8
  | [] => []
  | x :: l => (if x.toNat = 0 then [x, 255] else [x]) ++ txb l
/-- A text's bytes in order. -/
def tx (l : List UInt8) : List UInt8 := txb l ++ [0, 1]
theorem txb_append (a b : List UInt8) : txb (a ++ b) = txb a ++ txb b := by
  induction a with
  | nil => rfl
  | cons x a ih => simp [txb, ih]
theorem txb_len (l : List UInt8) : (txb l).length ≤ 2 * l.length := by
  induction l with
  | nil => simp [txb]
  | cons x l ih => simp only [txb, List.length_append, List.length_cons]; split <;> simp <;> omega

theorem txb_snoc (l : List UInt8) (k : Nat) (h : k < l.length) : txb (l.take (k + 1)) = txb (l.take k) ++ (if l[k].toNat = 0 then [l[k], 255] else [l[k]]) := by
  rw [List.take_succ_eq_append_getElem h, txb_append]
  simp [txb]
set_option maxRecDepth 100000 in
set_option maxHeartbeats 1000000 in
theorem text_any (s : ByteArray) (hs : s.size ≤ 10000) (w : World) :
    Calls Tryz.prog 92 #[.string s] w fun e w' => ∃ v, e = .returned v ∧ w'.ownsRow w.heap.size 5 1 v (tx s.data.toList).length ((tx s.data.toList).map bc) ∧ Below w.heap.size w w' := by
  obtain ⟨i0, hi, hz0, hz1, hz2⟩ := info_parts info5
  have hsl : s.data.toList.length = s.size := Array.length_toList
  obtain ⟨w0, hr, hown0, hg0⟩ := run_make_own (P := Tryz.prog) w w.heap.size 49 5 i0 (.int .u8 0) 1 Tryz.underlying49 hi hz0 hz1 .i64 .i64 (s.size + 2) (by rw [hz2]; omega) (by unfold maxLen; omega) (Nat.le_refl _)
  have e2 : ((s.size + 2 : Nat) : Int) = (s.size : Int) + 2 := by omega
  rw [e2] at hr
  clear e2
  have HB0 : Hid (Below w.heap.size w w0) := (Below.refl _ _).grown hg0 (Nat.le_refl _) (fun k hk => by cases hk)
  have HO0 : Hid (w0.ownsRow w.heap.size 5 1 (.slice (some ⟨w.heap.size, 0, none⟩) 0 (s.size + 2)) (txb (s.data.toList.take 0)).length ((txb (s.data.toList.take 0)).map bc)) := hown0
  clear hown0 hg0
  go_enter Tryz.func92, Tryz.ntmps92
  go_wp2_with fail
  clear hr
  go_loopw [3, 11] (fun v i wr => ∃ k : Nat, k ≤ s.size ∧ i = .int .i64 (k : Int) ∧ wr.ownsRow w.heap.size 5 1 v (txb (s.data.toList.take k)).length ((txb (s.data.toList.take k)).map bc) ∧ Below w.heap.size w wr) (fun _ i _ => s.size - (intOf i).toNat)
  case atStart => exact ⟨0, by omega, rfl, HO0.out, HB0.out⟩
  case round =>
    obtain ⟨k, hk, rfl, hown, hbr⟩ := hrel
    have hlen := txb_len (s.data.toList.take k)
    have htk : (s.data.toList.take k).length ≤ k := List.length_take_le _ _
    have hsz := hbr.size
    by_cases hlt : k < s.size
    · have hsn := txb_snoc s.data.toList k (by omega)
      have hxe : s[k] = s.data.toList[k]'(by omega) := rfl
      rw [← hxe] at hsn
      have HSN : Hid _ := hsn
      have HHL : Hid (s.data.toList.length = s.size) := hsl
      clear hsn hxe hsl
      generalize hx : s[k] = x at *
      generalize s.data.toList.take k = L at *
      by_cases hx0 : x.toNat = 0
      · have HX : Hid (x.toNat = 0) := hx0
        have i5 : ((x.toNat : Int) == 0) = true := by simp [hx0]
        have i6 : bc x = .int .u8 0 := by unfold bc; rw [hx0]; rfl
        have HBC : Hid (bc x = .int .u8 0) := i6
        clear hx0 i6
        go_wp2_with (at_builtin; refine wpList_append_own _ rfl _ _ 49 rfl w.heap.size 5 i0 (.int .u8 0) 1 1 Tryz.underlying49 hi hz0 hz1 hz2 rfl (by decide) _ _ _ rfl (hown.alloc _) ⟨wr.heap.size, 0, none⟩ 1 1 [.int .u8 (x.toNat : Int)] rfl rfl news1 one1 (len_ok (by omega)).1 (len_ok (by omega)).2 (al_ok hsz) ?_)
        intro v' w1 hown' hgrow _
        have HO1 : Hid (w1.ownsRow w.heap.size 5 1 v' ((txb L).length + 1) ((txb L).map bc ++ [bc x])) := hown'
        have HB1 : Hid (Below w.heap.size w w1) := (hbr.alloc hbr.size _).grown hgrow (al_ok hsz) (own_block hown)
        have hown1 : w1.ownsRow w.heap.size 5 1 v' ((txb L).length + 1) ((txb L).map bc ++ [bc x]) := HO1.out
        have hsz1 := HB1.out.size
        clear hown hown' hgrow hbr hsz
        go_wp2_with (at_builtin; refine wpList_append_own _ rfl _ _ 49 rfl w.heap.size 5 i0 (.int .u8 0) 1 1 Tryz.underlying49 hi hz0 hz1 hz2 rfl (by decide) _ _ _ rfl (hown1.alloc _) ⟨w1.heap.size, 0, none⟩ 1 1 [.int .u8 255] rfl rfl news1 one1 (len_ok (by omega)).1 (len_ok (by omega)).2 (al_ok hsz1) ?_)
        intro v2 w2 hown2 hgrow2 _
        have HO2 : Hid (w2.ownsRow w.heap.size 5 1 v2 (txb (s.data.toList.take (k + 1))).length ((txb (s.data.toList.take (k + 1))).map bc)) := by
          rw [HSN.out, if_pos HX.out, List.map_append, List.length_append]
          have e : ((txb L).map bc ++ [x, 255].map bc) = (txb L).map bc ++ [bc x, .int .u8 255] := rfl
          have e2 : (txb L).length + [x, 255].length = (txb L).length + 1 + 1 := rfl
          rw [e, e2]
          exact hown2
        have HB2 : Hid (Below w.heap.size w w2) := (HB1.out.alloc HB1.out.size _).grown hgrow2 (al_ok hsz1) (own_block hown1)
        clear hown1 hown2 hgrow2 hsz1 HO1 HB1
        go_wp2_with fail
        go_roundw
        case rel => exact ⟨k + 1, by omega, by go_num, HO2.out, HB2.out⟩
        case measure => simp [intOf]; omega
      · have HX : Hid (¬ x.toNat = 0) := hx0
        have i5 : ((x.toNat : Int) == 0) = false := by simp; omega
        clear hx0
        go_wp2_with (at_builtin; refine wpList_append_own _ rfl _ _ 49 rfl w.heap.size 5 i0 (.int .u8 0) 1 1 Tryz.underlying49 hi hz0 hz1 hz2 rfl (by decide) _ _ _ rfl (hown.alloc _) ⟨wr.heap.size, 0, none⟩ 1 1 [.int .u8 (x.toNat : Int)] rfl rfl news1 one1 (len_ok (by omega)).1 (len_ok (by omega)).2 (al_ok hsz) ?_)
        intro v' w1 hown' hgrow _
        have HO2 : Hid (w1.ownsRow w.heap.size 5 1 v' (txb (s.data.toList.take (k + 1))).length ((txb (s.data.toList.take (k + 1))).map bc)) := by
          rw [HSN.out, if_neg HX.out, List.map_append, List.length_append]
          exact hown'
        have HB2 : Hid (Below w.heap.size w w1) := (hbr.alloc hbr.size _).grown hgrow (al_ok hsz) (own_block hown)
        clear hown hown' hgrow hbr hsz
        go_wp2_with fail
        go_roundw
        case rel => exact ⟨k + 1, by omega, by go_num, HO2.out, HB2.out⟩
        case measure => simp [intOf]; omega
    · have hke : k = s.size := by omega
      subst hke
      have HTK : Hid (s.data.toList.take s.size = s.data.toList) := List.take_of_length_le (by omega)
      clear hsl
      generalize s.data.toList.take s.size = L at *
      go_wp2_with (at_builtin; refine wpList_append_own _ rfl _ _ 49 rfl w.heap.size 5 i0 (.int .u8 0) 1 1 Tryz.underlying49 hi hz0 hz1 hz2 rfl (by decide) _ _ _ rfl (hown.alloc _) ⟨wr.heap.size, 0, none⟩ 2 2 [.int .u8 0, .int .u8 1] rfl rfl news2 one2 (len_ok (by omega)).1 (len_ok (by omega)).2 (al_ok hsz) ?_)
      intro v' w1 hown' hgrow _
      have HO2 : Hid (w1.ownsRow w.heap.size 5 1 v' (tx s.data.toList).length ((tx s.data.toList).map bc)) := by
        unfold tx
        rw [← HTK.out, List.map_append, List.length_append]
        exact hown'
      have HB2 : Hid (Below w.heap.size w w1) := (hbr.alloc hbr.size _).grown hgrow (al_ok hsz) (own_block hown)
      clear hown hown' hgrow hbr hsz
      go_wp2_with fail
      go_ret
      exact ⟨_, rfl, HO2.out, HB2.out⟩
end Go.Proofs.YthicmbjiblbcmaaGreat

/- The contract of code.ReadText. -/
namespace Go.Proofs.YthicmbjiblbcmaaGreat
open Go.RowKit

/-- What ReadText tells of bytes, of which i were read, and made acc: the text, how many, what is wrong. -/
def rtF : List UInt8 → List UInt8 → Nat → List UInt8 × Nat × Int
  | [], _, _ => ([], 0, 10)
  | [_], _, _ => ([], 0, 10)
  | x :: y :: l, acc, i =>
    if x.toNat = 0 then
      if y.toNat = 255 then rtF l (acc ++ [x]) (i + 2)
      else if y.toNat = 1 then (acc, i + 2, 0) else ([], 0, 3)
    else rtF (y :: l) (acc ++ [x]) (i + 1)
theorem rtF_cons2 (x y : UInt8) (l acc : List UInt8) (i : Nat) : rtF (x :: y :: l) acc i = if x.toNat = 0 then (if y.toNat = 255 then rtF l (acc ++ [x]) (i + 2) else if y.toNat = 1 then (acc, i + 2, 0) else ([], 0, 3)) else rtF (y :: l) (acc ++ [x]) (i + 1) := by rw [rtF]
theorem rtF_one (x : UInt8) (acc : List UInt8) (i : Nat) : rtF [x] acc i = ([], 0, 10) := by rw [rtF]
theorem drop2 (l : List UInt8) (k : Nat) (h : k + 1 < l.length) : l.drop k = l[k] :: l[k + 1] :: l.drop (k + 2) := by
  rw [List.drop_eq_getElem_cons (by omega), List.drop_eq_getElem_cons h]
theorem drop1 (l : List UInt8) (k : Nat) (h : k + 1 = l.length) : l.drop k = [l[k]] := by
  rw [List.drop_eq_getElem_cons (by omega), List.drop_eq_nil_of_le (by omega)]

/-- What holds at each jump to the fault. -/
def JRt (l : List UInt8) (w : World) (a' : Act) (w' : World) : Prop := Below w.heap.size w w' ∧ ∃ (E : Int) (u0 u1 u2 u3 u4 u5 u7 u8 u9 u10 u11 u12 u13 u14 u15 u16 u17 u18 u19 u20 u21 u22 u23 u24 u25 u26 u27 u28 u29 u30 u31 u32 u33 u34 u35 u36 u37 u38 u39 u40 u41 u42 u43 u44 u45 u46 u47 : Value), a' = { tmps := #[u0, u1, u2, u3, u4, u5, .int .i64 E, u7, u8, u9, u10, u11, u12, u13, u14, u15, u16, u17, u18, u19, u20, u21, u22, u23, u24, u25, u26, u27, u28, u29, u30, u31, u32, u33, u34, u35, u36, u37, u38, u39, u40, u41, u42, u43, u44, u45, u46, u47], defers := [] } ∧ rtF l [] 0 = ([], 0, E)
theorem JRt_of {l : List UInt8} {w w' : World} {E : Int} {u0 u1 u2 u3 u4 u5 u7 u8 u9 u10 u11 u12 u13 u14 u15 u16 u17 u18 u19 u20 u21 u22 u23 u24 u25 u26 u27 u28 u29 u30 u31 u32 u33 u34 u35 u36 u37 u38 u39 u40 u41 u42 u43 u44 u45 u46 u47 : Value} (hb : Below w.heap.size w w') (h : rtF l [] 0 = ([], 0, E)) : JRt l w { tmps := #[u0, u1, u2, u3, u4, u5, .int .i64 E, u7, u8, u9, u10, u11, u12, u13, u14, u15, u16, u17, u18, u19, u20, u21, u22, u23, u24, u25, u26, u27, u28, u29, u30, u31, u32, u33, u34, u35, u36, u37, u38, u39, u40, u41, u42, u43, u44, u45, u46, u47], defers := [] } w' :=
  ⟨hb, E, u0, u1, u2, u3, u4, u5, u7, u8, u9, u10, u11, u12, u13, u14, u15, u16, u17, u18, u19, u20, u21, u22, u23, u24, u25, u26, u27, u28, u29, u30, u31, u32, u33, u34, u35, u36, u37, u38, u39, u40, u41, u42, u43, u44, u45, u46, u47, rfl, h⟩

set_option maxRecDepth 100000 in
set_option maxHeartbeats 1000000 in
theorem readText_some (b off cap : Nat) (l : List UInt8) (h0 : 0 < l.length) (hl : l.length ≤ 10000) (w : World) (hbw : b < w.heap.size) (hc : ∀ j (h : j < l.length), w.cell? ⟨b, off + j, none⟩ = some (bc l[j])) :
    Calls Tryz.prog 103 #[.slice (some ⟨b, off, none⟩) l.length cap] w fun e w' => e = .returned (.tuple #[.string ⟨(rtF l [] 0).1.toArray⟩, .int .i64 (rtF l [] 0).2.1, .int .i64 (rtF l [] 0).2.2]) ∧ Below w.heap.size w w' := by
  obtain ⟨i0, hi, hz0, hz1, hz2⟩ := info_parts info5
  go_enter Tryz.func103, Tryz.ntmps103
  go_wp2_with fail
  refine wp_scope_jumps 0 (JRt l w) (fun _ _ => 0) rfl ?_ ?_
  · go_wp2_with fail
    go_loopw [5, 6, 7] (fun v e i wr => ∃ (k : Nat) (acc : List UInt8), k ≤ l.length ∧ e = .int .i64 10 ∧ i = .int .i64 (k : Int) ∧ acc.length ≤ k ∧ rtF (l.drop k) acc k = rtF l [] 0 ∧ wr.ownsRow w.heap.size 5 1 v acc.length (acc.map bc) ∧ Below w.heap.size w wr) (fun _ _ i _ => l.length - (intOf i).toNat)
    case atStart => exact ⟨0, [], by omega, rfl, rfl, by simp, rfl, World.ownsRow_nil _ _ _ _, Below.refl _ _⟩
    case round =>
      obtain ⟨k, acc, hk, rfl, rfl, hacc, hF, hown, hbr⟩ := hrel
      have hsz := hbr.size
      by_cases hlt : k < l.length
      · have hcell : wr.cell? ⟨b, off + k, none⟩ = some (bc l[k]) := (hbr.cell (p := ⟨b, off + k, none⟩) hbw).trans (hc k hlt)
        have hki : (k : Int) < (l.length : Int) := by omega
        by_cases hl1 : k + 1 < l.length
        · have hcell1 : wr.cell? ⟨b, off + (k + 1), none⟩ = some (bc l[k + 1]) := (hbr.cell (p := ⟨b, off + (k + 1), none⟩) hbw).trans (hc (k + 1) hl1)
          rw [drop2 l k hl1, rtF_cons2] at hF
          have HD1 : Hid (l[k + 1] :: l.drop (k + 2) = l.drop (k + 1)) := (List.drop_eq_getElem_cons hl1).symm
          generalize l[k] = x at *
          generalize l[k + 1] = y at *
          unfold bc at hcell hcell1
          have hki1 : (k : Int) + 1 < (l.length : Int) := by omega
          clear hc
          by_cases hx0 : x.toNat = 0
          · rw [if_pos hx0] at hF
            have g0 : ((x.toNat : Int) == 0) = true := by simp [hx0]
            have g1 : ((x.toNat : Int) != 0) = false := by simp [hx0]
            have HX : Hid (bc x = .int .u8 0) := by unfold Hid bc; rw [hx0]; rfl
            clear hx0
            by_cases hy : y.toNat = 255
            · rw [if_pos hy] at hF
              have HF : Hid _ := hF
              have g2 : ((y.toNat : Int) == 255) = true := by simp [hy]
              clear hy hF
              go_wp2_with (at_builtin; refine wpList_append_own _ rfl _ _ 49 rfl w.heap.size 5 i0 (.int .u8 0) 1 1 Tryz.underlying49 hi hz0 hz1 hz2 rfl (by decide) _ _ _ rfl (hown.alloc _) ⟨wr.heap.size, 0, none⟩ 1 1 [.int .u8 0] rfl rfl news1 one1 (len_ok (by omega)).1 (len_ok (by omega)).2 (al_ok hsz) ?_)
              intro v' w1 hown' hgrow _
              have HO2 : Hid (w1.ownsRow w.heap.size 5 1 v' (acc ++ [x]).length ((acc ++ [x]).map bc)) := by
                rw [List.map_append, List.length_append]
                simp only [List.map_cons, List.map_nil]
                rw [HX.out]
                exact hown'
              have HB2 : Hid (Below w.heap.size w w1) := (hbr.alloc hbr.size _).grown hgrow (al_ok hsz) (own_block hown)
              clear hown hown' hgrow hbr hsz hcell hcell1
              go_wp2_with fail
              go_roundw
              case rel => exact ⟨k + 2, acc ++ [x], by omega, rfl, by go_num, by simp; omega, HF.out, HO2.out, HB2.out⟩
              case measure => simp [intOf]; omega
            · rw [if_neg hy] at hF
              have g2 : ((y.toNat : Int) == 255) = false := by simp; omega
              clear hy
              by_cases hy1 : y.toNat = 1
              · rw [if_pos hy1] at hF
                have HF : Hid _ := hF.symm
                have g3 : ((y.toNat : Int) == 1) = true := by simp [hy1]
                have hcv := reads_text (reads_own hown)
                have HB : Hid (Below w.heap.size w wr) := hbr
                clear hy1 hF hown hbr
                go_wp2_with fail
                rw [jump_ret]
                go_ret3
                exact ⟨by rw [HF.out]; rfl, HB.out⟩
              · rw [if_neg hy1] at hF
                have HF : Hid _ := hF.symm
                have g3 : ((y.toNat : Int) == 1) = false := by simp; omega
                have HB : Hid (Below w.heap.size w wr) := hbr
                clear hy1 hF hown hbr
                go_wp2_with fail
                go_step3
                exact And.intro (a := 0 = 0) rfl (JRt_of HB.out HF.out)
          · rw [if_neg hx0, HD1.out] at hF
            have HF : Hid _ := hF
            have g0 : ((x.toNat : Int) == 0) = false := by simp; omega
            have g1 : ((x.toNat : Int) != 0) = true := by simp; omega
            clear hx0 hF
            go_wp2_with (at_builtin; refine wpList_append_own _ rfl _ _ 49 rfl w.heap.size 5 i0 (.int .u8 0) 1 1 Tryz.underlying49 hi hz0 hz1 hz2 rfl (by decide) _ _ _ rfl (hown.alloc _) ⟨wr.heap.size, 0, none⟩ 1 1 [.int .u8 (x.toNat : Int)] rfl rfl news1 one1 (len_ok (by omega)).1 (len_ok (by omega)).2 (al_ok hsz) ?_)
            intro v' w1 hown' hgrow _
            have HO2 : Hid (w1.ownsRow w.heap.size 5 1 v' (acc ++ [x]).length ((acc ++ [x]).map bc)) := by
              rw [List.map_append, List.length_append]
              exact hown'
            have HB2 : Hid (Below w.heap.size w w1) := (hbr.alloc hbr.size _).grown hgrow (al_ok hsz) (own_block hown)
            clear hown hown' hgrow hbr hsz hcell hcell1
            go_wp2_with fail
            go_roundw
            case rel => exact ⟨k + 1, acc ++ [x], by omega, rfl, by go_num, by simp; omega, HF.out, HO2.out, HB2.out⟩
            case measure => simp [intOf]; omega
        · have hl2 : k + 1 = l.length := by omega
          rw [drop1 l k hl2, rtF_one] at hF
          have HF : Hid _ := hF.symm
          have HDN : Hid (l.drop (k + 1) = []) := List.drop_eq_nil_of_le (by omega)
          generalize l[k] = x at *
          unfold bc at hcell
          clear hc hF
          have g5 : (k : Int) + 1 = (l.length : Int) := by omega
          by_cases hx0 : x.toNat = 0
          · have g0 : ((x.toNat : Int) == 0) = true := by simp [hx0]
            have g1 : ((x.toNat : Int) != 0) = false := by simp [hx0]
            have HB : Hid (Below w.heap.size w wr) := hbr
            clear hx0 hown hbr
            go_wp2_with fail
            go_step3
            exact And.intro (a := 0 = 0) rfl (JRt_of HB.out HF.out)
          · have g0 : ((x.toNat : Int) == 0) = false := by simp; omega
            have g1 : ((x.toNat : Int) != 0) = true := by simp; omega
            have HE : Hid (k + 1 = l.length) := hl2
            clear hx0 g5 hl2 hl1
            go_wp2_with (at_builtin; refine wpList_append_own _ rfl _ _ 49 rfl w.heap.size 5 i0 (.int .u8 0) 1 1 Tryz.underlying49 hi hz0 hz1 hz2 rfl (by decide) _ _ _ rfl (hown.alloc _) ⟨wr.heap.size, 0, none⟩ 1 1 [.int .u8 (x.toNat : Int)] rfl rfl news1 one1 (len_ok (by omega)).1 (len_ok (by omega)).2 (al_ok hsz) ?_)
            intro v' w1 hown' hgrow _
            have HO2 : Hid (w1.ownsRow w.heap.size 5 1 v' (acc ++ [x]).length ((acc ++ [x]).map bc)) := by
              rw [List.map_append, List.length_append]
              exact hown'
            have HB2 : Hid (Below w.heap.size w w1) := (hbr.alloc hbr.size _).grown hgrow (al_ok hsz) (own_block hown)
            clear hown hown' hgrow hbr hsz hcell
            go_wp2_with fail
            go_roundw
            case rel => exact ⟨k + 1, acc ++ [x], by omega, rfl, by go_num, by simp; omega, by rw [HDN.out, HF.out]; rfl, HO2.out, HB2.out⟩
            case measure => simp [intOf]; omega
      · have hke : k = l.length := by omega
        subst hke
        rw [List.drop_length] at hF
        have HF : Hid (rtF l [] 0 = ([], 0, 10)) := by unfold Hid; rw [← hF]; rfl
        have HB : Hid (Below w.heap.size w wr) := hbr
        clear hc hF hown hbr
        go_wp2_with fail
        go_step3
        go_wp2_with fail
        rw [jump_ret]
        go_ret3
        exact ⟨by rw [HF.out]; rfl, HB.out⟩
  · rintro a' w' ⟨hb, E, u0, u1, u2, u3, u4, u5, u7, u8, u9, u10, u11, u12, u13, u14, u15, u16, u17, u18, u19, u20, u21, u22, u23, u24, u25, u26, u27, u28, u29, u30, u31, u32, u33, u34, u35, u36, u37, u38, u39, u40, u41, u42, u43, u44, u45, u46, u47, rfl, e1⟩
    have E1 : Hid _ := e1
    have HB : Hid _ := hb
    clear e1 hb
    go_wp2_with fail
    rw [jump_ret]
    go_ret3
    exact ⟨by rw [E1.out]; rfl, HB.out⟩
set_option maxRecDepth 100000 in
set_option maxHeartbeats 1000000 in
theorem readText_none (a : Option Addr) (cap : Nat) (w : World) :
    Calls Tryz.prog 103 #[.slice a 0 cap] w fun e w' => e = .returned (.tuple #[.string ⟨#[]⟩, .int .i64 0, .int .i64 10]) ∧ Below w.heap.size w w' := by
  go_enter Tryz.func103, Tryz.ntmps103
  go_wp2_with fail
  go_step3
  go_wp2_with fail
  go_loop [6, 7] (fun e i => e = .int .i64 10 ∧ i = .int .i64 0) (fun _ _ => 0)
  case atStart => exact ⟨rfl, rfl⟩
  case round =>
    obtain ⟨rfl, rfl⟩ := hrel
    go_wp2_with fail
    go_step3
    go_wp2_with fail
    (try rw [Exit.noGoto_ret])
    go_ret3
    exact ⟨rfl, Below.refl _ _⟩
theorem readText_any (v : Value) (l : List UInt8) (hl : l.length ≤ 10000) (w : World) (h : Reads w v l) :
    Calls Tryz.prog 103 #[v] w fun e w' => e = .returned (.tuple #[.string ⟨(rtF l [] 0).1.toArray⟩, .int .i64 (rtF l [] 0).2.1, .int .i64 (rtF l [] 0).2.2]) ∧ Below w.heap.size w w' := by
  rcases h with ⟨rfl, a, cap, rfl, _⟩ | ⟨b, off, cap, rfl, h2, h3, h4, h5, h6⟩
  · exact readText_none a cap w
  · exact readText_some b off cap l h2 hl w h5 h6
end Go.Proofs.YthicmbjiblbcmaaGreat

/- The contract of word.Write: numbers as eight bytes each, the greatest first. -/
namespace Go.Proofs.YthicmbjiblbcmaaGreat
open Go.RowKit

/-- Byte i of eight, the greatest first. -/
def byteOf (x : Int) (i : Nat) : Int := x / 2 ^ (8 * (7 - i)) % 256
/-- The first k bytes of all numbers' bytes. -/
def bytesTo (zs : List Int) (k : Nat) : List Int := (List.range k).map fun j => byteOf (zs.getD (j / 8) 0) (j % 8)
theorem bytesTo_succ (zs : List Int) (k : Nat) : bytesTo zs (k + 1) = bytesTo zs k ++ [byteOf (zs.getD (k / 8) 0) (k % 8)] := by
  simp [bytesTo, List.range_succ]
theorem bytesTo_len (zs : List Int) (k : Nat) : (bytesTo zs k).length = k := by simp [bytesTo]
set_option maxRecDepth 100000 in
set_option maxHeartbeats 2000000 in
theorem wordWrite_any (b n : Nat) (zs : List Int) (hn : zs.length = n) (hn2 : n ≤ 1000) (hz : ∀ x ∈ zs, 0 ≤ x ∧ x < 18446744073709551616) (w : World) (hbw : b < w.heap.size)
    (hc : ∀ i, i < zs.length → w.cell? ⟨b, i, none⟩ = some (.int .u64 (zs.getD i 0)))
    (hmk : ∀ w, (Instr.makeSlice 49 (.int .i64 0) (.int .i64 (8 * (n : Int)))).run Tryz.prog w = .ok (.slice (some ⟨w.heap.size, 0, none⟩) 0 (8 * n)) (w.alloc (.cells (Array.replicate (8 * n) (.int .u8 0)) 5))) :
    Calls Tryz.prog 93 #[.slice (some ⟨b, 0, none⟩) n n] w fun e w' => ∃ v, e = .returned v ∧ w'.ownsRow w.heap.size 5 1 v (8 * n) ((bytesTo zs (8 * n)).map (Value.int .u8)) ∧ Below w.heap.size w w' := by
  obtain ⟨i0, hi, hz0, hz1, hz2⟩ := info_parts info5
  go_enter Tryz.func93, Tryz.ntmps93
  go_wp2_with fail
  have hown0 : (w.alloc (.cells (Array.replicate (8 * n) (.int .u8 0)) 5)).ownsRow w.heap.size 5 1 (.slice (some ⟨w.heap.size, 0, none⟩) 0 (8 * n)) 0 [] := by
    refine ⟨rfl, Or.inr ⟨w.heap.size, 8 * n, Array.replicate (8 * n) (.int .u8 0), rfl, Nat.le_refl _, ?_, Nat.zero_le _, ?_, ?_, ?_⟩⟩
    · show (w.heap.push _)[w.heap.size]? = _
      simp
    · unfold maxLen; omega
    · simp
    · simp
  clear hmk
  go_loopw [3, 13] (fun v i wr => ∃ k : Nat, k ≤ n ∧ i = .int .i64 k ∧ wr.ownsRow w.heap.size 5 1 v (8 * k) ((bytesTo zs (8 * k)).map (Value.int .u8)) ∧ Below w.heap.size w wr) (fun _ i _ => n - (intOf i).toNat)
  case atStart => exact ⟨0, Nat.zero_le _, rfl, hown0, (Below.refl _ _).alloc (by simp) _⟩
  case round =>
    obtain ⟨k, hk, rfl, hown, hbr⟩ := hrel
    clear hown0
    by_cases hlt : k < n
    · have hcell : wr.cell? ⟨b, k, none⟩ = some (.int .u64 (zs.getD k 0)) := (hbr.cell (p := ⟨b, k, none⟩) hbw).trans (hc k (by omega))
      have hzk := hz _ (getD_mem zs k (by omega))
      have HO : Hid _ := hown
      have HB : Hid _ := hbr
      have HE : Hid (zs.getD k 0 = zs.getD k 0) := rfl
      have hsz := hbr.size
      clear hown hbr hc
      generalize hx : zs.getD k 0 = x at *
      have HX : Hid (zs.getD k 0 = x) := hx
      clear hx
      go_wp2_with fail
      go_loopw [3, 17] (fun v i wq => ∃ m : Nat, m ≤ 8 ∧ i = .int .i64 m ∧ wq.ownsRow w.heap.size 5 1 v (8 * k + m) ((bytesTo zs (8 * k + m)).map (Value.int .u8)) ∧ Below w.heap.size w wq) (fun _ i _ => 8 - (intOf i).toNat)
      case atStart => exact ⟨0, by omega, rfl, HO.out, HB.out⟩
      case round =>
        obtain ⟨m, hm, rfl, hown, hbr⟩ := hrel
        clear HO HB
        by_cases hlm : m < 8
        · have hsz2 := hbr.size
          go_wp2_with (at_builtin; refine wpList_append_own _ rfl _ _ 49 rfl w.heap.size 5 i0 (.int .u8 0) 1 1 Tryz.underlying49 hi hz0 hz1 hz2 rfl (by decide) _ _ _ rfl (hown.alloc _) ⟨wr.heap.size, 0, none⟩ 1 1 [.int .u8 (x / 2 ^ (8 * (7 - m)) % 256)] rfl rfl ?c1 ?c2 ?c3 ?c4 ?c5 ?_)
          case c1 =>
            intro j u hj
            match j, hj with
            | 0, hj => simp at hj; subst hj; simp [Addr.add]
          case c2 => intro u hu; simp at hu; subst hu; rfl
          case c3 => unfold maxLen; omega
          case c4 => omega
          case c5 => simp; omega
          intro v' w1 hown' hgrow _
          have HO2 : Hid (w1.ownsRow w.heap.size 5 1 v' (8 * k + (m + 1)) ((bytesTo zs (8 * k + (m + 1))).map (Value.int .u8))) := by
            have e : bytesTo zs (8 * k + (m + 1)) = bytesTo zs (8 * k + m) ++ [byteOf x m] := by
              have := bytesTo_succ zs (8 * k + m)
              have e1 : (8 * k + m) / 8 = k := by omega
              have e2 : (8 * k + m) % 8 = m := by omega
              rw [e1, e2, HX.out] at this
              exact this
            rw [e, List.map_append]
            exact hown'
          have HB2 : Hid (Below w.heap.size w w1) := (hbr.alloc hbr.size _).grown hgrow (by simp; omega) (own_block hown)
          clear hown hown' hgrow hbr
          go_wp2_with fail
          go_roundw
          case rel => exact ⟨m + 1, by omega, by go_num, HO2.out, HB2.out⟩
          case measure => simp [intOf]; omega
        · have hm8 : m = 8 := by omega
          subst hm8
          have HO2 : Hid _ := hown
          have HB2 : Hid _ := hbr
          clear hown hbr
          go_wp2_with fail
          go_roundw
          case rel => exact ⟨k + 1, by omega, by go_num, HO2.out, HB2.out⟩
          case measure => simp [intOf]; omega
    · have hke : k = n := by omega
      subst hke
      have HO2 : Hid _ := hown
      have HB2 : Hid _ := hbr
      clear hown hbr
      go_wp2_with fail
      go_ret
      exact ⟨_, rfl, HO2.out, HB2.out⟩
end Go.Proofs.YthicmbjiblbcmaaGreat

/- The contract of wide.Write: sixteen bytes, the greatest first. -/
namespace Go.Proofs.YthicmbjiblbcmaaGreat
open Go.RowKit

theorem mk8 : ∀ w, (Instr.makeSlice 49 (.int .i64 0) (.int .i64 (8 * ((1 : Nat) : Int)))).run Tryz.prog w = .ok (.slice (some ⟨w.heap.size, 0, none⟩) 0 (8 * 1)) (w.alloc (.cells (Array.replicate (8 * 1) (.int .u8 0)) 5)) := fun _ => by kernel_rfl
/-- The eight bytes of one number, the sixteen of two. -/
def eight (x : Int) : List Int := bytesTo [x] 8
def sixteen (x y : Int) : List Int := bytesTo [x, y] 16
theorem eight_len (x : Int) : (eight x).length = 8 := bytesTo_len _ _
theorem word1 (b : Nat) (x : Int) (hx : 0 ≤ x ∧ x < 18446744073709551616) (w : World) (hbw : b < w.heap.size) (h0 : w.cell? ⟨b, 0, none⟩ = some (.int .u64 x)) :
    Calls Tryz.prog 93 #[.slice (some ⟨b, 0, none⟩) 1 1] w fun e w' => ∃ v, e = .returned v ∧ w'.ownsRow w.heap.size 5 1 v 8 ((eight x).map (Value.int .u8)) ∧ Below w.heap.size w w' :=
  wordWrite_any b 1 [x] rfl (by omega) (by intro z hz; simp at hz; subst hz; exact hx) w hbw (by
    intro i hi
    match i, hi with
    | 0, _ => simpa using h0) mk8
end Go.Proofs.YthicmbjiblbcmaaGreat

/- The contract of word.Read: the number that eight bytes tell. -/
namespace Go.Proofs.YthicmbjiblbcmaaGreat
open Go.RowKit

/-- The number that bytes tell, the greatest first. -/
def beval (l : List Int) : Int := l.foldl (fun n x => n * 256 + x) 0
theorem beval_snoc (l : List Int) (x : Int) : beval (l ++ [x]) = beval l * 256 + x := by simp [beval, List.foldl_append]
theorem beval_take (l : List Int) (k : Nat) (h : k < l.length) : beval (l.take (k + 1)) = beval (l.take k) * 256 + l.getD k 0 := by
  rw [take_snocI l k h, beval_snoc]
theorem beval_bd (l : List Int) (hl : ∀ x ∈ l, 0 ≤ x ∧ x ≤ 255) : ∀ k : Nat, 0 ≤ beval (l.take k) ∧ beval (l.take k) < 256 ^ k := by
  intro k
  induction k with
  | zero => simp [beval]
  | succ k ih =>
    by_cases h : k < l.length
    · rw [beval_take l k h]
      have hx := hl _ (getD_mem l k h)
      obtain ⟨i1, i2⟩ := ih
      have e : (256 : Int) ^ (k + 1) = 256 ^ k * 256 := Int.pow_succ ..
      rw [e]
      generalize (256 : Int) ^ k = q at *
      omega
    · have e : l.take (k + 1) = l.take k := by rw [List.take_of_length_le (by omega), List.take_of_length_le (by omega)]
      rw [e]
      have e2 : (256 : Int) ^ (k + 1) = 256 ^ k * 256 := Int.pow_succ ..
      rw [e2]
      generalize (256 : Int) ^ k = q at *
      omega
theorem or_byte (n x : Int) (n1 : 0 ≤ n) (n2 : n < 72057594037927936) (x1 : 0 ≤ x) (x2 : x ≤ 255) : bits .or .u64 (n * 256) x = n * 256 + x := by
  obtain ⟨a, rfl⟩ := Int.eq_ofNat_of_zero_le n1
  obtain ⟨b, rfl⟩ := Int.eq_ofNat_of_zero_le x1
  have e : (a : Int) * 256 = ((a * 256 : Nat) : Int) := by omega
  rw [e, bits_or_u64_nat _ _ (by omega) (by omega), nat_join 8 _ _ (by omega) (by omega)]
  omega

set_option maxRecDepth 100000 in
set_option maxHeartbeats 1000000 in
theorem wordRead_any (b off cap : Nat) (zs : List Int) (hl : zs.length = 8) (hz : ∀ x ∈ zs, 0 ≤ x ∧ x ≤ 255) (w : World)
    (hc : ∀ i, i < 8 → w.cell? ⟨b, off + i, none⟩ = some (.int .u8 (zs.getD i 0))) :
    Calls Tryz.prog 104 #[.slice (some ⟨b, off, none⟩) 8 cap] w fun e w' => e = .returned (.int .u64 (beval zs)) ∧ w' = w := by
  go_enter Tryz.func104, Tryz.ntmps104
  go_wp2_with fail
  go_loop [3, 8] (fun n i => ∃ k : Nat, k ≤ 8 ∧ i = .int .i64 k ∧ n = .int .u64 (beval (zs.take k))) (fun _ i => 8 - (intOf i).toNat)
  case atStart => exact ⟨0, by omega, rfl, rfl⟩
  case round =>
    obtain ⟨k, hk, rfl, rfl⟩ := hrel
    by_cases hlt : k < 8
    · have hcell := hc k hlt
      have hx := hz _ (getD_mem zs k (by omega))
      have HT : Hid _ := beval_take zs k (by omega)
      have hb := beval_bd zs hz k
      have hq : (256 : Int) ^ k ≤ 72057594037927936 := by
        have : (256 : Int) ^ k ≤ 256 ^ 7 := by
          have h7 : (256 : Nat) ^ k ≤ 256 ^ 7 := Nat.pow_le_pow_right (by omega) (by omega)
          exact_mod_cast h7
        simpa using this
      generalize zs.getD k 0 = x at *
      generalize beval (zs.take k) = n at *
      generalize (256 : Int) ^ k = q at *
      obtain ⟨n1, n2⟩ := hb
      obtain ⟨x1, x2⟩ := hx
      have n3 : n < 72057594037927936 := by omega
      have hor := or_byte n x n1 n3 x1 x2
      clear hc hq n2
      go_wp2_with fail
      go_round
      case rel => exact ⟨k + 1, by omega, by go_num, by rw [HT.out]⟩
      case measure => simp [intOf]; omega
    · have hke : k = 8 := by omega
      subst hke
      have e : zs.take 8 = zs := List.take_of_length_le (by omega)
      clear hc
      go_wp2_with fail
      go_ret
      exact ⟨rfl, rfl⟩
end Go.Proofs.YthicmbjiblbcmaaGreat
