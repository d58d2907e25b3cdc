/- C3 C4 C5 C6 C8, joined. -/
import Derived.Test.YtgjcopabmdbenaaGreatQZ1
import Derived.Test.YtgjcopabmdbenaaGreatQZ4
import Derived.Test.YtgjcopabmdbenaaGreatQZ11
import Derived.Test.YtgjcopabmdbenaaGreatQZ18
import Derived.Laws.MakeOwn
import Derived.Laws.BitsAllLaws
/- The contract of code.Text: a text in order. -/
namespace Go.Proofs.YtgjcopabmdbenaaGreat
open Go.RowKit

/-- A text's bytes in order, ahead of its end. -/
def txb : List UInt8 → List UInt8
  | [] => []
  | x :: l => (if x.toNat = 0 then [x, 255] else [x]) ++ txb l
/-- A text's bytes in order. -/
def tx (l : List UInt8) : List UInt8 := txb l ++ [0, 1]
theorem txb_append (a b : List UInt8) : txb (a ++ b) = txb a ++ txb b := by
  induction a with
  | nil => rfl
  | cons x a ih => simp [txb, ih]
theorem txb_len (l : List UInt8) : (txb l).length ≤ 2 * l.length := by
  induction l with
  | nil => simp [txb]
  | cons x l ih => simp only [txb, List.length_append, List.length_cons]; split <;> simp <;> omega

theorem txb_snoc (l : List UInt8) (k : Nat) (h : k < l.length) : txb (l.take (k + 1)) = txb (l.take k) ++ (if l[k].toNat = 0 then [l[k], 255] else [l[k]]) := by
  rw [List.take_succ_eq_append_getElem h, txb_append]
  simp [txb]
set_option maxRecDepth 100000 in
set_option maxHeartbeats 1000000 in
theorem text_any (s : ByteArray) (hs : s.size ≤ 10000) (w : World) :
    Calls Tryz.prog 87 #[.string s] w fun e w' => ∃ v, e = .returned v ∧ w'.ownsRow w.heap.size 5 1 v (tx s.data.toList).length ((tx s.data.toList).map bc) ∧ Below w.heap.size w w' := by
  obtain ⟨i0, hi, hz0, hz1, hz2⟩ := info_parts info5
  have hsl : s.data.toList.length = s.size := Array.length_toList
  obtain ⟨w0, hr, hown0, hg0⟩ := run_make_own (P := Tryz.prog) w w.heap.size 44 5 i0 (.int .u8 0) 1 Tryz.underlying44 hi hz0 hz1 .i64 .i64 (s.size + 2) (by rw [hz2]; omega) (by unfold maxLen; omega) (Nat.le_refl _)
  have e2 : ((s.size + 2 : Nat) : Int) = (s.size : Int) + 2 := by omega
  rw [e2] at hr
  clear e2
  have HB0 : Hid (Below w.heap.size w w0) := (Below.refl _ _).grown hg0 (Nat.le_refl _) (fun k hk => by cases hk)
  have HO0 : Hid (w0.ownsRow w.heap.size 5 1 (.slice (some ⟨w.heap.size, 0, none⟩) 0 (s.size + 2)) (txb (s.data.toList.take 0)).length ((txb (s.data.toList.take 0)).map bc)) := hown0
  clear hown0 hg0
  go_enter Tryz.func87, Tryz.ntmps87
  go_wp2_with fail
  clear hr
  go_loopw [3, 11] (fun v i wr => ∃ k : Nat, k ≤ s.size ∧ i = .int .i64 (k : Int) ∧ wr.ownsRow w.heap.size 5 1 v (txb (s.data.toList.take k)).length ((txb (s.data.toList.take k)).map bc) ∧ Below w.heap.size w wr) (fun _ i _ => s.size - (intOf i).toNat)
  case atStart => exact ⟨0, by omega, rfl, HO0.out, HB0.out⟩
  case round =>
    obtain ⟨k, hk, rfl, hown, hbr⟩ := hrel
    have hlen := txb_len (s.data.toList.take k)
    have htk : (s.data.toList.take k).length ≤ k := List.length_take_le _ _
    have hsz := hbr.size
    by_cases hlt : k < s.size
    · have hsn := txb_snoc s.data.toList k (by omega)
      have hxe : s[k] = s.data.toList[k]'(by omega) := rfl
      rw [← hxe] at hsn
      have HSN : Hid _ := hsn
      have HHL : Hid (s.data.toList.length = s.size) := hsl
      clear hsn hxe hsl
      generalize hx : s[k] = x at *
      generalize s.data.toList.take k = L at *
      by_cases hx0 : x.toNat = 0
      · have HX : Hid (x.toNat = 0) := hx0
        have i5 : ((x.toNat : Int) == 0) = true := by simp [hx0]
        have i6 : bc x = .int .u8 0 := by unfold bc; rw [hx0]; rfl
        have HBC : Hid (bc x = .int .u8 0) := i6
        clear hx0 i6
        go_wp2_with (at_builtin; refine wpList_append_own _ rfl _ _ 44 rfl w.heap.size 5 i0 (.int .u8 0) 1 1 Tryz.underlying44 hi hz0 hz1 hz2 rfl (by decide) _ _ _ rfl (hown.alloc _) ⟨wr.heap.size, 0, none⟩ 1 1 [.int .u8 (x.toNat : Int)] rfl rfl news1 one1 (len_ok (by omega)).1 (len_ok (by omega)).2 (al_ok hsz) ?_)
        intro v' w1 hown' hgrow _
        have HO1 : Hid (w1.ownsRow w.heap.size 5 1 v' ((txb L).length + 1) ((txb L).map bc ++ [bc x])) := hown'
        have HB1 : Hid (Below w.heap.size w w1) := (hbr.alloc hbr.size _).grown hgrow (al_ok hsz) (own_block hown)
        have hown1 : w1.ownsRow w.heap.size 5 1 v' ((txb L).length + 1) ((txb L).map bc ++ [bc x]) := HO1.out
        have hsz1 := HB1.out.size
        clear hown hown' hgrow hbr hsz
        go_wp2_with (at_builtin; refine wpList_append_own _ rfl _ _ 44 rfl w.heap.size 5 i0 (.int .u8 0) 1 1 Tryz.underlying44 hi hz0 hz1 hz2 rfl (by decide) _ _ _ rfl (hown1.alloc _) ⟨w1.heap.size, 0, none⟩ 1 1 [.int .u8 255] rfl rfl news1 one1 (len_ok (by omega)).1 (len_ok (by omega)).2 (al_ok hsz1) ?_)
        intro v2 w2 hown2 hgrow2 _
        have HO2 : Hid (w2.ownsRow w.heap.size 5 1 v2 (txb (s.data.toList.take (k + 1))).length ((txb (s.data.toList.take (k + 1))).map bc)) := by
          rw [HSN.out, if_pos HX.out, List.map_append, List.length_append]
          have e : ((txb L).map bc ++ [x, 255].map bc) = (txb L).map bc ++ [bc x, .int .u8 255] := rfl
          have e2 : (txb L).length + [x, 255].length = (txb L).length + 1 + 1 := rfl
          rw [e, e2]
          exact hown2
        have HB2 : Hid (Below w.heap.size w w2) := (HB1.out.alloc HB1.out.size _).grown hgrow2 (al_ok hsz1) (own_block hown1)
        clear hown1 hown2 hgrow2 hsz1 HO1 HB1
        go_wp2_with fail
        go_roundw
        case rel => exact ⟨k + 1, by omega, by go_num, HO2.out, HB2.out⟩
        case measure => simp [intOf]; omega
      · have HX : Hid (¬ x.toNat = 0) := hx0
        have i5 : ((x.toNat : Int) == 0) = false := by simp; omega
        clear hx0
        go_wp2_with (at_builtin; refine wpList_append_own _ rfl _ _ 44 rfl w.heap.size 5 i0 (.int .u8 0) 1 1 Tryz.underlying44 hi hz0 hz1 hz2 rfl (by decide) _ _ _ rfl (hown.alloc _) ⟨wr.heap.size, 0, none⟩ 1 1 [.int .u8 (x.toNat : Int)] rfl rfl news1 one1 (len_ok (by omega)).1 (len_ok (by omega)).2 (al_ok hsz) ?_)
        intro v' w1 hown' hgrow _
        have HO2 : Hid (w1.ownsRow w.heap.size 5 1 v' (txb (s.data.toList.take (k + 1))).length ((txb (s.data.toList.take (k + 1))).map bc)) := by
          rw [HSN.out, if_neg HX.out, List.map_append, List.length_append]
          exact hown'
        have HB2 : Hid (Below w.heap.size w w1) := (hbr.alloc hbr.size _).grown hgrow (al_ok hsz) (own_block hown)
        clear hown hown' hgrow hbr hsz
        go_wp2_with fail
        go_roundw
        case rel => exact ⟨k + 1, by omega, by go_num, HO2.out, HB2.out⟩
        case measure => simp [intOf]; omega
    · have hke : k = s.size := by omega
      subst hke
      have HTK : Hid (s.data.toList.take s.size = s.data.toList) := List.take_of_length_le (by omega)
      clear hsl
      generalize s.data.toList.take s.size = L at *
      go_wp2_with (at_builtin; refine wpList_append_own _ rfl _ _ 44 rfl w.heap.size 5 i0 (.int .u8 0) 1 1 Tryz.underlying44 hi hz0 hz1 hz2 rfl (by decide) _ _ _ rfl (hown.alloc _) ⟨wr.heap.size, 0, none⟩ 2 2 [.int .u8 0, .int .u8 1] rfl rfl news2 one2 (len_ok (by omega)).1 (len_ok (by omega)).2 (al_ok hsz) ?_)
      intro v' w1 hown' hgrow _
      have HO2 : Hid (w1.ownsRow w.heap.size 5 1 v' (tx s.data.toList).length ((tx s.data.toList).map bc)) := by
        unfold tx
        rw [← HTK.out, List.map_append, List.length_append]
        exact hown'
      have HB2 : Hid (Below w.heap.size w w1) := (hbr.alloc hbr.size _).grown hgrow (al_ok hsz) (own_block hown)
      clear hown hown' hgrow hbr hsz
      go_wp2_with fail
      go_ret
      exact ⟨_, rfl, HO2.out, HB2.out⟩
end Go.Proofs.YtgjcopabmdbenaaGreat

/- The contract of code.ReadText. -/
namespace Go.Proofs.YtgjcopabmdbenaaGreat
open Go.RowKit

/-- What ReadText tells of bytes, of which i were read, and made acc: the text, how many, what is wrong. -/
def rtF : List UInt8 → List UInt8 → Nat → List UInt8 × Nat × Int
  | [], _, _ => ([], 0, 10)
  | [_], _, _ => ([], 0, 10)
  | x :: y :: l, acc, i =>
    if x.toNat = 0 then
      if y.toNat = 255 then rtF l (acc ++ [x]) (i + 2)
      else if y.toNat = 1 then (acc, i + 2, 0) else ([], 0, 3)
    else rtF (y :: l) (acc ++ [x]) (i + 1)
theorem rtF_cons2 (x y : UInt8) (l acc : List UInt8) (i : Nat) : rtF (x :: y :: l) acc i = if x.toNat = 0 then (if y.toNat = 255 then rtF l (acc ++ [x]) (i + 2) else if y.toNat = 1 then (acc, i + 2, 0) else ([], 0, 3)) else rtF (y :: l) (acc ++ [x]) (i + 1) := by rw [rtF]
theorem rtF_one (x : UInt8) (acc : List UInt8) (i : Nat) : rtF [x] acc i = ([], 0, 10) := by rw [rtF]
theorem drop2 (l : List UInt8) (k : Nat) (h : k + 1 < l.length) : l.drop k = l[k] :: l[k + 1] :: l.drop (k + 2) := by
  rw [List.drop_eq_getElem_cons (by omega), List.drop_eq_getElem_cons h]
theorem drop1 (l : List UInt8) (k : Nat) (h : k + 1 = l.length) : l.drop k = [l[k]] := by
  rw [List.drop_eq_getElem_cons (by omega), List.drop_eq_nil_of_le (by omega)]

/-- What holds at each jump to the fault. -/
def JRt (l : List UInt8) (w : World) (a' : Act) (w' : World) : Prop := Below w.heap.size w w' ∧ ∃ (E : Int) (u0 u1 u2 u3 u4 u5 u7 u8 u9 u10 u11 u12 u13 u14 u15 u16 u17 u18 u19 u20 u21 u22 u23 u24 u25 u26 u27 u28 u29 u30 u31 u32 u33 u34 u35 u36 u37 u38 u39 u40 u41 u42 u43 u44 u45 u46 u47 : Value), a' = { tmps := #[u0, u1, u2, u3, u4, u5, .int .i64 E, u7, u8, u9, u10, u11, u12, u13, u14, u15, u16, u17, u18, u19, u20, u21, u22, u23, u24, u25, u26, u27, u28, u29, u30, u31, u32, u33, u34, u35, u36, u37, u38, u39, u40, u41, u42, u43, u44, u45, u46, u47], defers := [] } ∧ rtF l [] 0 = ([], 0, E)
theorem JRt_of {l : List UInt8} {w w' : World} {E : Int} {u0 u1 u2 u3 u4 u5 u7 u8 u9 u10 u11 u12 u13 u14 u15 u16 u17 u18 u19 u20 u21 u22 u23 u24 u25 u26 u27 u28 u29 u30 u31 u32 u33 u34 u35 u36 u37 u38 u39 u40 u41 u42 u43 u44 u45 u46 u47 : Value} (hb : Below w.heap.size w w') (h : rtF l [] 0 = ([], 0, E)) : JRt l w { tmps := #[u0, u1, u2, u3, u4, u5, .int .i64 E, u7, u8, u9, u10, u11, u12, u13, u14, u15, u16, u17, u18, u19, u20, u21, u22, u23, u24, u25, u26, u27, u28, u29, u30, u31, u32, u33, u34, u35, u36, u37, u38, u39, u40, u41, u42, u43, u44, u45, u46, u47], defers := [] } w' :=
  ⟨hb, E, u0, u1, u2, u3, u4, u5, u7, u8, u9, u10, u11, u12, u13, u14, u15, u16, u17, u18, u19, u20, u21, u22, u23, u24, u25, u26, u27, u28, u29, u30, u31, u32, u33, u34, u35, u36, u37, u38, u39, u40, u41, u42, u43, u44, u45, u46, u47, rfl, h⟩

set_option maxRecDepth 100000 in
set_option maxHeartbeats 1000000 in
theorem readText_some (b off cap : Nat) (l : List UInt8) (h0 : 0 < l.length) (hl : l.length ≤ 10000) (w : World) (hbw : b < w.heap.size) (hc : ∀ j (h : j < l.length), w.cell? ⟨b, off + j, none⟩ = some (bc l[j])) :
    Calls Tryz.prog 97 #[.slice (some ⟨b, off, none⟩) l.length cap] w fun e w' => e = .returned (.tuple #[.string ⟨(rtF l [] 0).1.toArray⟩, .int .i64 (rtF l [] 0).2.1, .int .i64 (rtF l [] 0).2.2]) ∧ Below w.heap.size w w' := by
  obtain ⟨i0, hi, hz0, hz1, hz2⟩ := info_parts info5
  go_enter Tryz.func97, Tryz.ntmps97
  go_wp2_with fail
  refine wp_scope_jumps 0 (JRt l w) (fun _ _ => 0) rfl ?_ ?_
  · go_wp2_with fail
    go_loopw [5, 6, 7] (fun v e i wr => ∃ (k : Nat) (acc : List UInt8), k ≤ l.length ∧ e = .int .i64 10 ∧ i = .int .i64 (k : Int) ∧ acc.length ≤ k ∧ rtF (l.drop k) acc k = rtF l [] 0 ∧ wr.ownsRow w.heap.size 5 1 v acc.length (acc.map bc) ∧ Below w.heap.size w wr) (fun _ _ i _ => l.length - (intOf i).toNat)
    case atStart => exact ⟨0, [], by omega, rfl, rfl, by simp, rfl, World.ownsRow_nil _ _ _ _, Below.refl _ _⟩
    case round =>
      obtain ⟨k, acc, hk, rfl, rfl, hacc, hF, hown, hbr⟩ := hrel
      have hsz := hbr.size
      by_cases hlt : k < l.length
      · have hcell : wr.cell? ⟨b, off + k, none⟩ = some (bc l[k]) := (hbr.cell (p := ⟨b, off + k, none⟩) hbw).trans (hc k hlt)
        have hki : (k : Int) < (l.length : Int) := by omega
        by_cases hl1 : k + 1 < l.length
        · have hcell1 : wr.cell? ⟨b, off + (k + 1), none⟩ = some (bc l[k + 1]) := (hbr.cell (p := ⟨b, off + (k + 1), none⟩) hbw).trans (hc (k + 1) hl1)
          rw [drop2 l k hl1, rtF_cons2] at hF
          have HD1 : Hid (l[k + 1] :: l.drop (k + 2) = l.drop (k + 1)) := (List.drop_eq_getElem_cons hl1).symm
          generalize l[k] = x at *
          generalize l[k + 1] = y at *
          unfold bc at hcell hcell1
          have hki1 : (k : Int) + 1 < (l.length : Int) := by omega
          clear hc
          by_cases hx0 : x.toNat = 0
          · rw [if_pos hx0] at hF
            have g0 : ((x.toNat : Int) == 0) = true := by simp [hx0]
            have g1 : ((x.toNat : Int) != 0) = false := by simp [hx0]
            have HX : Hid (bc x = .int .u8 0) := by unfold Hid bc; rw [hx0]; rfl
            clear hx0
            by_cases hy : y.toNat = 255
            · rw [if_pos hy] at hF
              have HF : Hid _ := hF
              have g2 : ((y.toNat : Int) == 255) = true := by simp [hy]
              clear hy hF
              go_wp2_with (at_builtin; refine wpList_append_own _ rfl _ _ 44 rfl w.heap.size 5 i0 (.int .u8 0) 1 1 Tryz.underlying44 hi hz0 hz1 hz2 rfl (by decide) _ _ _ rfl (hown.alloc _) ⟨wr.heap.size, 0, none⟩ 1 1 [.int .u8 0] rfl rfl news1 one1 (len_ok (by omega)).1 (len_ok (by omega)).2 (al_ok hsz) ?_)
              intro v' w1 hown' hgrow _
              have HO2 : Hid (w1.ownsRow w.heap.size 5 1 v' (acc ++ [x]).length ((acc ++ [x]).map bc)) := by
                rw [List.map_append, List.length_append]
                simp only [List.map_cons, List.map_nil]
                rw [HX.out]
                exact hown'
              have HB2 : Hid (Below w.heap.size w w1) := (hbr.alloc hbr.size _).grown hgrow (al_ok hsz) (own_block hown)
              clear hown hown' hgrow hbr hsz hcell hcell1
              go_wp2_with fail
              go_roundw
              case rel => exact ⟨k + 2, acc ++ [x], by omega, rfl, by go_num, by simp; omega, HF.out, HO2.out, HB2.out⟩
              case measure => simp [intOf]; omega
            · rw [if_neg hy] at hF
              have g2 : ((y.toNat : Int) == 255) = false := by simp; omega
              clear hy
              by_cases hy1 : y.toNat = 1
              · rw [if_pos hy1] at hF
                have HF : Hid _ := hF.symm
                have g3 : ((y.toNat : Int) == 1) = true := by simp [hy1]
                have hcv := reads_text (reads_own hown)
                have HB : Hid (Below w.heap.size w wr) := hbr
                clear hy1 hF hown hbr
                go_wp2_with fail
                rw [jump_ret]
                go_ret3
                exact ⟨by rw [HF.out]; rfl, HB.out⟩
              · rw [if_neg hy1] at hF
                have HF : Hid _ := hF.symm
                have g3 : ((y.toNat : Int) == 1) = false := by simp; omega
                have HB : Hid (Below w.heap.size w wr) := hbr
                clear hy1 hF hown hbr
                go_wp2_with fail
                go_step3
                exact And.intro (a := 0 = 0) rfl (JRt_of HB.out HF.out)
          · rw [if_neg hx0, HD1.out] at hF
            have HF : Hid _ := hF
            have g0 : ((x.toNat : Int) == 0) = false := by simp; omega
            have g1 : ((x.toNat : Int) != 0) = true := by simp; omega
            clear hx0 hF
            go_wp2_with (at_builtin; refine wpList_append_own _ rfl _ _ 44 rfl w.heap.size 5 i0 (.int .u8 0) 1 1 Tryz.underlying44 hi hz0 hz1 hz2 rfl (by decide) _ _ _ rfl (hown.alloc _) ⟨wr.heap.size, 0, none⟩ 1 1 [.int .u8 (x.toNat : Int)] rfl rfl news1 one1 (len_ok (by omega)).1 (len_ok (by omega)).2 (al_ok hsz) ?_)
            intro v' w1 hown' hgrow _
            have HO2 : Hid (w1.ownsRow w.heap.size 5 1 v' (acc ++ [x]).length ((acc ++ [x]).map bc)) := by
              rw [List.map_append, List.length_append]
              exact hown'
            have HB2 : Hid (Below w.heap.size w w1) := (hbr.alloc hbr.size _).grown hgrow (al_ok hsz) (own_block hown)
            clear hown hown' hgrow hbr hsz hcell hcell1
            go_wp2_with fail
            go_roundw
            case rel => exact ⟨k + 1, acc ++ [x], by omega, rfl, by go_num, by simp; omega, HF.out, HO2.out, HB2.out⟩
            case measure => simp [intOf]; omega
        · have hl2 : k + 1 = l.length := by omega
          rw [drop1 l k hl2, rtF_one] at hF
          have HF : Hid _ := hF.symm
          have HDN : Hid (l.drop (k + 1) = []) := List.drop_eq_nil_of_le (by omega)
          generalize l[k] = x at *
          unfold bc at hcell
          clear hc hF
          have g5 : (k : Int) + 1 = (l.length : Int) := by omega
          by_cases hx0 : x.toNat = 0
          · have g0 : ((x.toNat : Int) == 0) = true := by simp [hx0]
            have g1 : ((x.toNat : Int) != 0) = false := by simp [hx0]
            have HB : Hid (Below w.heap.size w wr) := hbr
            clear hx0 hown hbr
            go_wp2_with fail
            go_step3
            exact And.intro (a := 0 = 0) rfl (JRt_of HB.out HF.out)
          · have g0 : ((x.toNat : Int) == 0) = false := by simp; omega
            have g1 : ((x.toNat : Int) != 0) = true := by simp; omega
            have HE : Hid (k + 1 = l.length) := hl2
            clear hx0 g5 hl2 hl1
            go_wp2_with (at_builtin; refine wpList_append_own _ rfl _ _ 44 rfl w.heap.size 5 i0 (.int .u8 0) 1 1 Tryz.underlying44 hi hz0 hz1 hz2 rfl (by decide) _ _ _ rfl (hown.alloc _) ⟨wr.heap.size, 0, none⟩ 1 1 [.int .u8 (x.toNat : Int)] rfl rfl news1 one1 (len_ok (by omega)).1 (len_ok (by omega)).2 (al_ok hsz) ?_)
            intro v' w1 hown' hgrow _
            have HO2 : Hid (w1.ownsRow w.heap.size 5 1 v' (acc ++ [x]).length ((acc ++ [x]).map bc)) := by
              rw [List.map_append, List.length_append]
              exact hown'
            have HB2 : Hid (Below w.heap.size w w1) := (hbr.alloc hbr.size _).grown hgrow (al_ok hsz) (own_block hown)
            clear hown hown' hgrow hbr hsz hcell
            go_wp2_with fail
            go_roundw
            case rel => exact ⟨k + 1, acc ++ [x], by omega, rfl, by go_num, by simp; omega, by rw [HDN.out, HF.out]; rfl, HO2.out, HB2.out⟩
            case measure => simp [intOf]; omega
      · have hke : k = l.length := by omega
        subst hke
        rw [List.drop_length] at hF
        have HF : Hid (rtF l [] 0 = ([], 0, 10)) := by unfold Hid; rw [← hF]; rfl
        have HB : Hid (Below w.heap.size w wr) := hbr
        clear hc hF hown hbr
        go_wp2_with fail
        go_step3
        go_wp2_with fail
        rw [jump_ret]
        go_ret3
        exact ⟨by rw [HF.out]; rfl, HB.out⟩
  · rintro a' w' ⟨hb, E, u0, u1, u2, u3, u4, u5, u7, u8, u9, u10, u11, u12, u13, u14, u15, u16, u17, u18, u19, u20, u21, u22, u23, u24, u25, u26, u27, u28, u29, u30, u31, u32, u33, u34, u35, u36, u37, u38, u39, u40, u41, u42, u43, u44, u45, u46, u47, rfl, e1⟩
    have E1 : Hid _ := e1
    have HB : Hid _ := hb
    clear e1 hb
    go_wp2_with fail
    rw [jump_ret]
    go_ret3
    exact ⟨by rw [E1.out]; rfl, HB.out⟩
set_option maxRecDepth 100000 in
set_option maxHeartbeats 1000000 in
theorem readText_none (a : Option Addr) (cap : Nat) (w : World) :
    Calls Tryz.prog 97 #[.slice a 0 cap] w fun e w' => e = .returned (.tuple #[.string ⟨#[]⟩, .int .i64 0, .int .i64 10]) ∧ Below w.heap.size w w' := by
  go_enter Tryz.func97, Tryz.ntmps97
  go_wp2_with fail
  go_step3
  go_wp2_with fail
  go_loop [6, 7] (fun e i => e = .int .i64 10 ∧ i = .int .i64 0) (fun _ _ => 0)
  case atStart => exact ⟨rfl, rfl⟩
  case round =>
    obtain ⟨rfl, rfl⟩ := hrel
    go_wp2_with fail
    go_step3
    go_wp2_with fail
    (try rw [Exit.noGoto_ret])
    go_ret3
    exact ⟨rfl, Below.refl _ _⟩
theorem readText_any (v : Value) (l : List UInt8) (hl : l.length ≤ 10000) (w : World) (h : Reads w v l) :
    Calls Tryz.prog 97 #[v] w fun e w' => e = .returned (.tuple #[.string ⟨(rtF l [] 0).1.toArray⟩, .int .i64 (rtF l [] 0).2.1, .int .i64 (rtF l [] 0).2.2]) ∧ Below w.heap.size w w' := by
  rcases h with ⟨rfl, a, cap, rfl, _⟩ | ⟨b, off, cap, rfl, h2, h3, h4, h5, h6⟩
  · exact readText_none a cap w
  · exact readText_some b off cap l h2 hl w h5 h6
end Go.Proofs.YtgjcopabmdbenaaGreat

/- The contracts of code.Number and ReadNumber. -/
namespace Go.Proofs.YtgjcopabmdbenaaGreat
open Go.RowKit

theorem xor_top (a : Nat) (ha : a < 18446744073709551616) : a ^^^ 9223372036854775808 = (a + 9223372036854775808) % 18446744073709551616 := by
  have e1 : (9223372036854775808 : Nat) = 2 ^ 63 := by decide
  have e2 : (18446744073709551616 : Nat) = 2 ^ 64 := by decide
  rw [e1, e2, Nat.add_comm a]
  rw [e2] at ha
  apply Nat.eq_of_testBit_eq
  intro j
  rw [Nat.testBit_xor, Nat.testBit_mod_two_pow, Nat.testBit_two_pow]
  rcases Nat.lt_trichotomy j 63 with h | h | h
  · rw [Nat.testBit_two_pow_add_gt h]
    have h1 : decide (j < 64) = true := by simp; omega
    have h2 : decide (63 = j) = false := by simp; omega
    rw [h1, h2]; simp
  · subst h
    rw [Nat.testBit_two_pow_add_eq]; simp
  · have h1 : decide (j < 64) = false := by simp; omega
    have h2 : decide (63 = j) = false := by simp; omega
    have h3 : a.testBit j = false := Nat.testBit_lt_two_pow (Nat.lt_of_lt_of_le ha (Nat.pow_le_pow_right (by omega) (by omega)))
    rw [h1, h2, h3]; simp
theorem bits_top (v : Int) (h1 : -9223372036854775808 ≤ v) (h2 : v ≤ 9223372036854775807) : bits .xor .u64 (IntKind.u64.wrap v) 9223372036854775808 = v + 9223372036854775808 := by
  rw [IntKind.wrap_u64]
  obtain ⟨a, ha⟩ := Int.eq_ofNat_of_zero_le (show 0 ≤ v % 18446744073709551616 by omega)
  rw [ha]
  have e : (9223372036854775808 : Int) = ((9223372036854775808 : Nat) : Int) := rfl
  rw [e, bits_xor_u64_nat a _ (by omega) (by omega), xor_top a (by omega)]
  omega
theorem bits_topn (n : Int) (h1 : 0 ≤ n) (h2 : n ≤ 18446744073709551615) : IntKind.i64.wrap (bits .xor .u64 n 9223372036854775808) = n - 9223372036854775808 := by
  obtain ⟨a, ha⟩ := Int.eq_ofNat_of_zero_le h1
  subst ha
  have e : (9223372036854775808 : Int) = ((9223372036854775808 : Nat) : Int) := rfl
  rw [e, bits_xor_u64_nat a _ (by omega) (by omega), xor_top a (by omega), IntKind.wrap_i64]
  omega

/-- The eight bytes of a number in order. -/
def nb (v : Int) : List UInt8 := (eight (v + 9223372036854775808)).map fun z => UInt8.ofNat z.toNat
theorem nb_len (v : Int) : (nb v).length = 8 := by simp [nb, eight_len]
theorem byteOf_bd (x : Int) (i : Nat) : 0 ≤ byteOf x i ∧ byteOf x i ≤ 255 := by unfold byteOf; omega
theorem nb_cells (v : Int) : (eight (v + 9223372036854775808)).map (Value.int .u8) = (nb v).map bc := by
  unfold nb
  rw [List.map_map]
  apply List.map_congr_left
  intro z hz
  have hb : 0 ≤ z ∧ z ≤ 255 := by
    unfold eight bytesTo at hz
    obtain ⟨j, _, rfl⟩ := List.mem_map.1 hz
    exact byteOf_bd _ _
  obtain ⟨a, rfl⟩ := Int.eq_ofNat_of_zero_le hb.1
  show Value.int .u8 (a : Int) = bc (UInt8.ofNat a)
  rw [bc_of (by omega)]

set_option maxRecDepth 100000 in
set_option maxHeartbeats 1000000 in
theorem number_any (v : Int) (h1 : -9223372036854775808 ≤ v) (h2 : v ≤ 9223372036854775807) (w : World) :
    Calls Tryz.prog 62 #[.int .i64 v] w fun e w' => ∃ x, e = .returned x ∧ w'.ownsRow w.heap.size 5 1 x 8 ((nb v).map bc) ∧ Below w.heap.size w w' := by
  have ht := bits_top v h1 h2
  have HB : Hid (0 ≤ v + 9223372036854775808 ∧ v + 9223372036854775808 < 18446744073709551616) := by unfold Hid; omega
  clear h1 h2
  go_enter Tryz.func62, Tryz.ntmps62
  go_wp2_with fail
  refine (word1 _ (v + 9223372036854775808) HB.out _ (by simp) (by simp [go_sem])).mono ?_
  rintro e w1 ⟨x, rfl, hown, hb⟩
  rw [nb_cells] at hown
  have HO : Hid (w1.ownsRow w.heap.size 5 1 x 8 ((nb v).map bc)) := own_mono hown (by simp)
  have HBL : Hid (Below w.heap.size w w1) := ((Below.refl _ _).alloc (Nat.le_refl _) _).trans (hb.mono (by simp))
  clear hown hb
  go_wp2_with fail
  go_ret
  exact ⟨_, rfl, HO.out, HBL.out⟩

/-- What ReadNumber tells. -/
def rnF (l : List UInt8) : Int × Int × Int := if l.length < 8 then (0, 0, 10) else (beval ((l.take 8).map fun x => (x.toNat : Int)) - 9223372036854775808, 8, 0)
theorem beval8 (zs : List Int) (hl : zs.length = 8) (hz : ∀ x ∈ zs, 0 ≤ x ∧ x ≤ 255) : 0 ≤ beval zs ∧ beval zs ≤ 18446744073709551615 := by
  have h := beval_bd zs hz 8
  rw [List.take_of_length_le (by omega)] at h
  have e : (256 : Int) ^ 8 = 18446744073709551616 := by decide
  rw [e] at h
  omega
set_option maxRecDepth 100000 in
set_option maxHeartbeats 1000000 in
theorem readNumber_any (v : Value) (l : List UInt8) (w : World) (h : Reads w v l) :
    Calls Tryz.prog 81 #[v] w fun e w' => e = .returned (.tuple #[.int .i64 (rnF l).1, .int .i64 (rnF l).2.1, .int .i64 (rnF l).2.2]) ∧ Below w.heap.size w w' := by
  by_cases h8 : l.length < 8
  · have e : rnF l = (0, 0, 10) := by unfold rnF; rw [if_pos h8]
    rw [e]
    obtain ⟨a, cap, rfl, _⟩ := h.form
    have i1 : (l.length : Int) < 8 := by omega
    clear h e
    go_enter Tryz.func81, Tryz.ntmps81
    go_wp2_with fail
    go_ret3
    exact ⟨rfl, Below.refl _ _⟩
  · have e : rnF l = (beval ((l.take 8).map fun x => (x.toNat : Int)) - 9223372036854775808, 8, 0) := by unfold rnF; rw [if_neg h8]
    rw [e]
    rcases h with ⟨rfl, a, cap, rfl, _⟩ | ⟨b, off, cap, rfl, g2, g3, g4, g5, g6⟩
    · simp at h8
    have hlen : ((l.take 8).map fun x => (x.toNat : Int)).length = 8 := by simp; omega
    have hz : ∀ x ∈ ((l.take 8).map fun x => (x.toNat : Int)), 0 ≤ x ∧ x ≤ 255 := by
      intro x hx
      obtain ⟨y, _, rfl⟩ := List.mem_map.1 hx
      have := UInt8.toNat_lt y
      omega
    have hcc : ∀ i, i < 8 → w.cell? ⟨b, off + i, none⟩ = some (.int .u8 (((l.take 8).map fun x => (x.toNat : Int)).getD i 0)) := by
      intro i hi
      rw [g6 i (by omega)]
      unfold bc
      have e : ((l.take 8).map fun x => (x.toNat : Int)).getD i 0 = (l[i]'(by omega)).toNat := by
        have hl' : i < l.length := by omega
        simp [hi, List.getElem?_eq_getElem hl']
      rw [e]
    have hbe := beval8 _ hlen hz
    have ht := bits_topn _ hbe.1 hbe.2
    have HR : Hid (∀ cap w', w'.cell? = w.cell? → Calls Tryz.prog 98 #[.slice (some ⟨b, off, none⟩) 8 cap] w' fun e w2 => e = .returned (.int .u64 (beval ((l.take 8).map fun x => (x.toNat : Int)))) ∧ w2 = w') := by
      intro cap w' hw'
      exact wordRead_any b off cap _ hlen hz w' (by intro i hi; rw [hw']; exact hcc i hi)
    clear e hcc hz hlen hbe
    generalize beval ((l.take 8).map fun x => (x.toNat : Int)) = n at *
    have i1 : ¬ (l.length : Int) < 8 := by omega
    have i2 : (8 : Int) ≤ (cap : Int) := by omega
    have i3 : 8 ≤ cap := by omega
    clear g6 h8
    go_enter Tryz.func81, Tryz.ntmps81
    go_wp2_with fail
    refine (HR.out _ _ rfl).mono ?_
    rintro e w1 ⟨rfl, hw1⟩
    subst w1
    go_wp2_with fail
    go_ret3
    exact ⟨rfl, Below.refl _ _⟩
end Go.Proofs.YtgjcopabmdbenaaGreat

/- What the fixed calls of layer 4's 'alive' come to: true. -/
namespace Go.Proofs.YtgjcopabmdbenaaGreat
open Go.RowKit

end Go.Proofs.YtgjcopabmdbenaaGreat

/- Plain words on what is read of bytes: no program in sight. -/
namespace Go.Proofs.YtgjcopabmdbenaaGreat
open Go.RowKit

theorem u8_of {x : UInt8} {n : Nat} (h : x.toNat = n) : UInt8.ofNat n = x := by rw [← h]; exact UInt8.ofNat_toNat ..
/-- What ReadShort reads, written again, stands there. -/
theorem rsF_ok (l : List UInt8) : ∀ i v V N, rsF l i v = (V, N, 0) → i ≤ 9 → v < 128 ^ i →
    ∃ u c, N = i + c ∧ 1 ≤ c ∧ c ≤ l.length ∧ V = v + 128 ^ i * u ∧ sh u = l.take c ∧ (0 < i → 0 < u) ∧ V < 18446744073709551616 := by
  induction l with
  | nil => intro i v V N h _ _; simp [rsF] at h
  | cons x l ih =>
    intro i v V N h hi hv
    rw [rsF_cons] at h
    have hx : x.toNat < 256 := UInt8.toNat_lt x
    by_cases h9 : i = 9 ∧ 1 < x.toNat
    · rw [if_pos h9] at h; simp at h
    · rw [if_neg h9] at h
      by_cases h128 : 128 ≤ x.toNat
      · rw [if_pos h128] at h
        have hi8 : i ≤ 8 := by omega
        have hp : 128 ^ (i + 1) = 128 * 128 ^ i := by rw [Nat.pow_succ, Nat.mul_comm]
        obtain ⟨u, c, h1, h2, h3, h4, h5, h6, h7⟩ := ih (i + 1) _ V N h (by omega) (by
          have h2 : x.toNat % 128 * 128 ^ i ≤ 127 * 128 ^ i := Nat.mul_le_mul_right _ (by omega)
          generalize 128 ^ i = q at *
          omega)
        have hu := h6 (by omega)
        refine ⟨x.toNat % 128 + 128 * u, c + 1, by omega, by omega, by simp; omega, ?_, ?_, fun _ => by omega, h7⟩
        · rw [h4, hp, Nat.mul_add, Nat.mul_comm (x.toNat % 128)]
          have : 128 ^ i * (128 * u) = 128 * 128 ^ i * u := by rw [← Nat.mul_assoc, Nat.mul_comm (128 ^ i) 128]
          omega
        · rw [sh_hi (by omega), List.take_succ_cons]
          have e1 : (x.toNat % 128 + 128 * u) % 128 + 128 = x.toNat := by omega
          have e2 : (x.toNat % 128 + 128 * u) / 128 = u := by omega
          rw [e1, e2, h5, u8_of rfl]
      · rw [if_neg h128] at h
        by_cases h00 : x.toNat = 0 ∧ 0 < i
        · rw [if_pos h00] at h; simp at h
        · rw [if_neg h00] at h
          simp only [Prod.mk.injEq] at h
          obtain ⟨rfl, rfl, _⟩ := h
          have em : x.toNat % 128 = x.toNat := by omega
          have hf := short_fit x.toNat i hi (by omega) (fun h => by omega)
          have hp := pow128 i hi
          rw [em]
          refine ⟨x.toNat, 1, rfl, by omega, by simp, by rw [Nat.mul_comm], ?_, fun h => by omega, by omega⟩
          rw [sh_lo (by omega), u8_of rfl]; rfl
theorem rsF_bad (l : List UInt8) : ∀ i v, (rsF l i v).2.2 ≠ 0 → (rsF l i v).1 = 0 ∧ (rsF l i v).2.1 = 0 := by
  induction l with
  | nil => intro i v _; exact ⟨rfl, rfl⟩
  | cons x l ih =>
    intro i v h
    rw [rsF_cons] at h ⊢
    split
    · exact ⟨rfl, rfl⟩
    · rename_i h1
      rw [if_neg h1] at h
      split
      · rename_i h2
        rw [if_pos h2] at h
        exact ih _ _ h
      · rename_i h2
        rw [if_neg h2] at h
        split
        · exact ⟨rfl, rfl⟩
        · rename_i h3
          rw [if_neg h3] at h
          exact absurd rfl h
/-- What ReadText reads, written again, stands there. -/
theorem rtF_ok (n : Nat) : ∀ (l acc : List UInt8) i S N, l.length ≤ n → rtF l acc i = (S, N, 0) →
    ∃ s c, N = i + c ∧ 2 ≤ c ∧ c ≤ l.length ∧ S = acc ++ s ∧ tx s = l.take c := by
  induction n with
  | zero =>
    intro l acc i S N hl h
    have : l = [] := List.length_eq_zero_iff.1 (by omega)
    subst this; simp [rtF] at h
  | succ n ih =>
    intro l acc i S N hl h
    match l, hl, h with
    | [], _, h => simp [rtF] at h
    | [x], _, h => rw [rtF_one] at h; simp at h
    | x :: y :: l, hl, h =>
      rw [rtF_cons2] at h
      simp at hl
      by_cases hx : x.toNat = 0
      · rw [if_pos hx] at h
        by_cases hy : y.toNat = 255
        · rw [if_pos hy] at h
          obtain ⟨s, c, h1, h2, h3, h4, h5⟩ := ih l (acc ++ [x]) (i + 2) S N (by omega) h
          refine ⟨x :: s, c + 2, by omega, by omega, by simp; omega, by rw [h4]; simp, ?_⟩
          unfold tx at *
          have ey : y = 255 := by rw [← u8_of hy]; rfl
          have e1 : txb (x :: s) = [x, 255] ++ txb s := by simp [txb, hx]
          rw [e1, List.append_assoc, h5, ← ey]; rfl
        · rw [if_neg hy] at h
          by_cases hy1 : y.toNat = 1
          · rw [if_pos hy1] at h
            simp only [Prod.mk.injEq] at h
            obtain ⟨rfl, rfl, _⟩ := h
            have ex : x = 0 := by rw [← u8_of hx]; rfl
            have ey : y = 1 := by rw [← u8_of hy1]; rfl
            exact ⟨[], 2, rfl, by omega, by simp, by simp, by rw [ex, ey]; rfl⟩
          · rw [if_neg hy1] at h; simp at h
      · rw [if_neg hx] at h
        obtain ⟨s, c, h1, h2, h3, h4, h5⟩ := ih (y :: l) (acc ++ [x]) (i + 1) S N (by simp; omega) h
        refine ⟨x :: s, c + 1, by omega, by omega, by simp at h3 ⊢; omega, by rw [h4]; simp, ?_⟩
        unfold tx at *
        have e1 : txb (x :: s) = [x] ++ txb s := by simp [txb, hx]
        rw [e1, List.append_assoc, h5]; rfl
theorem rtF_bad (n : Nat) : ∀ (l acc : List UInt8) i, l.length ≤ n → (rtF l acc i).2.2 ≠ 0 → (rtF l acc i).1 = [] ∧ (rtF l acc i).2.1 = 0 := by
  induction n with
  | zero =>
    intro l acc i hl _
    have : l = [] := List.length_eq_zero_iff.1 (by omega)
    subst this; exact ⟨rfl, rfl⟩
  | succ n ih =>
    intro l acc i hl h
    match l, hl, h with
    | [], _, _ => exact ⟨rfl, rfl⟩
    | [x], _, _ => exact ⟨rfl, rfl⟩
    | x :: y :: l, hl, h =>
      rw [rtF_cons2] at h ⊢
      simp at hl
      by_cases hx : x.toNat = 0
      · rw [if_pos hx] at h ⊢
        by_cases hy : y.toNat = 255
        · rw [if_pos hy] at h ⊢
          exact ih _ _ _ (by omega) h
        · rw [if_neg hy] at h ⊢
          by_cases hy1 : y.toNat = 1
          · rw [if_pos hy1] at h; exact absurd rfl h
          · rw [if_neg hy1]; exact ⟨rfl, rfl⟩
      · rw [if_neg hx] at h ⊢
        exact ih _ _ _ (by simp; omega) h
end Go.Proofs.YtgjcopabmdbenaaGreat
