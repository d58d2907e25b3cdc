/- The contracts of the reference's Text and ReadText. -/
import Derived.Test.YtbcdmammedabmaaC8
namespace Go.Proofs.Ytbcdmammedabmaa
open Go.RowKit

set_option maxRecDepth 100000 in
set_option maxHeartbeats 1000000 in
theorem refText_any (s : ByteArray) (hs : s.size ≤ 10000) (w : World) :
    Calls Try.prog 34 #[.string s] w fun e w' => ∃ v, e = .returned v ∧ w'.ownsRow w.heap.size 5 1 v (tx s.data.toList).length ((tx s.data.toList).map bc) ∧ Below w.heap.size w w' := by
  obtain ⟨i0, hi, hz0, hz1, hz2⟩ := info_parts info5
  have hsl : s.data.toList.length = s.size := Array.length_toList
  have HO0 : Hid (w.ownsRow w.heap.size 5 1 (.slice none 0 0) (txb (s.data.toList.take 0)).length ((txb (s.data.toList.take 0)).map bc)) := World.ownsRow_nil _ _ _ _
  have HB0 : Hid (Below w.heap.size w w) := Below.refl _ _
  go_enter Try.func34, Try.ntmps34
  go_wp2_with fail
  go_loopw [3, 4] (fun v i wr => ∃ k : Nat, k ≤ s.size ∧ i = .int .i64 (k : Int) ∧ wr.ownsRow w.heap.size 5 1 v (txb (s.data.toList.take k)).length ((txb (s.data.toList.take k)).map bc) ∧ Below w.heap.size w wr) (fun _ i _ => s.size - (intOf i).toNat)
  case atStart => exact ⟨0, by omega, rfl, HO0.out, HB0.out⟩
  case round =>
    obtain ⟨k, hk, rfl, hown, hbr⟩ := hrel
    have hlen := txb_len (s.data.toList.take k)
    have htk : (s.data.toList.take k).length ≤ k := List.length_take_le _ _
    have hsz := hbr.size
    by_cases hlt : k < s.size
    · have hsn := txb_snoc s.data.toList k (by omega)
      have hxe : s[k] = s.data.toList[k]'(by omega) := rfl
      rw [← hxe] at hsn
      have HSN : Hid _ := hsn
      have HHL : Hid (s.data.toList.length = s.size) := hsl
      clear hsn hxe hsl
      generalize hx : s[k] = x at *
      generalize s.data.toList.take k = L at *
      by_cases hx0 : x.toNat = 0
      · have HX : Hid (x.toNat = 0) := hx0
        have i5 : ((x.toNat : Int) == 0) = true := by simp [hx0]
        have i6 : bc x = .int .u8 0 := by unfold bc; rw [hx0]; rfl
        have HBC : Hid (bc x = .int .u8 0) := i6
        clear hx0 i6
        go_wp2_with (at_builtin; refine wpList_append_own _ rfl _ _ 25 rfl w.heap.size 5 i0 (.int .u8 0) 1 1 Try.underlying25 hi hz0 hz1 hz2 rfl (by decide) _ _ _ rfl (hown.alloc _) ⟨wr.heap.size, 0, none⟩ 1 1 [.int .u8 (x.toNat : Int)] rfl rfl news1 one1 (len_ok (by omega)).1 (len_ok (by omega)).2 (al_ok hsz) ?_)
        intro v' w1 hown' hgrow _
        have HO1 : Hid (w1.ownsRow w.heap.size 5 1 v' ((txb L).length + 1) ((txb L).map bc ++ [bc x])) := hown'
        have HB1 : Hid (Below w.heap.size w w1) := (hbr.alloc hbr.size _).grown hgrow (al_ok hsz) (own_block hown)
        have hown1 : w1.ownsRow w.heap.size 5 1 v' ((txb L).length + 1) ((txb L).map bc ++ [bc x]) := HO1.out
        have hsz1 := HB1.out.size
        clear hown hown' hgrow hbr hsz
        go_wp2_with (at_builtin; refine wpList_append_own _ rfl _ _ 25 rfl w.heap.size 5 i0 (.int .u8 0) 1 1 Try.underlying25 hi hz0 hz1 hz2 rfl (by decide) _ _ _ rfl (hown1.alloc _) ⟨w1.heap.size, 0, none⟩ 1 1 [.int .u8 255] rfl rfl news1 one1 (len_ok (by omega)).1 (len_ok (by omega)).2 (al_ok hsz1) ?_)
        intro v2 w2 hown2 hgrow2 _
        have HO2 : Hid (w2.ownsRow w.heap.size 5 1 v2 (txb (s.data.toList.take (k + 1))).length ((txb (s.data.toList.take (k + 1))).map bc)) := by
          rw [HSN.out, if_pos HX.out, List.map_append, List.length_append]
          have e : ((txb L).map bc ++ [x, 255].map bc) = (txb L).map bc ++ [bc x, .int .u8 255] := rfl
          have e2 : (txb L).length + [x, 255].length = (txb L).length + 1 + 1 := rfl
          rw [e, e2]
          exact hown2
        have HB2 : Hid (Below w.heap.size w w2) := (HB1.out.alloc HB1.out.size _).grown hgrow2 (al_ok hsz1) (own_block hown1)
        clear hown1 hown2 hgrow2 hsz1 HO1 HB1
        go_wp2_with fail
        go_roundw
        case rel => exact ⟨k + 1, by omega, by go_num, HO2.out, HB2.out⟩
        case measure => simp [intOf]; omega
      · have HX : Hid (¬ x.toNat = 0) := hx0
        have i5 : ((x.toNat : Int) == 0) = false := by simp; omega
        clear hx0
        go_wp2_with (at_builtin; refine wpList_append_own _ rfl _ _ 25 rfl w.heap.size 5 i0 (.int .u8 0) 1 1 Try.underlying25 hi hz0 hz1 hz2 rfl (by decide) _ _ _ rfl (hown.alloc _) ⟨wr.heap.size, 0, none⟩ 1 1 [.int .u8 (x.toNat : Int)] rfl rfl news1 one1 (len_ok (by omega)).1 (len_ok (by omega)).2 (al_ok hsz) ?_)
        intro v' w1 hown' hgrow _
        have HO2 : Hid (w1.ownsRow w.heap.size 5 1 v' (txb (s.data.toList.take (k + 1))).length ((txb (s.data.toList.take (k + 1))).map bc)) := by
          rw [HSN.out, if_neg HX.out, List.map_append, List.length_append]
          exact hown'
        have HB2 : Hid (Below w.heap.size w w1) := (hbr.alloc hbr.size _).grown hgrow (al_ok hsz) (own_block hown)
        clear hown hown' hgrow hbr hsz
        go_wp2_with fail
        go_roundw
        case rel => exact ⟨k + 1, by omega, by go_num, HO2.out, HB2.out⟩
        case measure => simp [intOf]; omega
    · have hke : k = s.size := by omega
      subst hke
      have HTK : Hid (s.data.toList.take s.size = s.data.toList) := List.take_of_length_le (by omega)
      clear hsl
      generalize s.data.toList.take s.size = L at *
      go_wp2_with (at_builtin; refine wpList_append_own _ rfl _ _ 25 rfl w.heap.size 5 i0 (.int .u8 0) 1 1 Try.underlying25 hi hz0 hz1 hz2 rfl (by decide) _ _ _ rfl (hown.alloc _) ⟨wr.heap.size, 0, none⟩ 2 2 [.int .u8 0, .int .u8 1] rfl rfl news2 one2 (len_ok (by omega)).1 (len_ok (by omega)).2 (al_ok hsz) ?_)
      intro v' w1 hown' hgrow _
      have HO2 : Hid (w1.ownsRow w.heap.size 5 1 v' (tx s.data.toList).length ((tx s.data.toList).map bc)) := by
        unfold tx
        rw [← HTK.out, List.map_append, List.length_append]
        exact hown'
      have HB2 : Hid (Below w.heap.size w w1) := (hbr.alloc hbr.size _).grown hgrow (al_ok hsz) (own_block hown)
      clear hown hown' hgrow hbr hsz
      go_wp2_with fail
      go_ret
      exact ⟨_, rfl, HO2.out, HB2.out⟩
set_option maxRecDepth 100000 in
set_option maxHeartbeats 1000000 in
theorem refReadText_some (b off cap : Nat) (l : List UInt8) (h0 : 0 < l.length) (hl : l.length ≤ 10000) (w : World) (hbw : b < w.heap.size) (hc : ∀ j (h : j < l.length), w.cell? ⟨b, off + j, none⟩ = some (bc l[j])) :
    Calls Try.prog 30 #[.slice (some ⟨b, off, none⟩) l.length cap] w fun e w' => e = .returned (.tuple #[.string ⟨(rtF l [] 0).1.toArray⟩, .int .i64 (rtF l [] 0).2.1, .int .i64 (rtF l [] 0).2.2]) ∧ Below w.heap.size w w' := by
  obtain ⟨i0, hi, hz0, hz1, hz2⟩ := info_parts info5
  go_enter Try.func30, Try.ntmps30
  go_wp2_with fail
  go_loopw [5, 6] (fun v i wr => ∃ (k : Nat) (acc : List UInt8), k ≤ l.length ∧ i = .int .i64 (k : Int) ∧ acc.length ≤ k ∧ rtF (l.drop k) acc k = rtF l [] 0 ∧ wr.ownsRow w.heap.size 5 1 v acc.length (acc.map bc) ∧ Below w.heap.size w wr) (fun _ i _ => l.length - (intOf i).toNat)
  case atStart => exact ⟨0, [], by omega, rfl, by simp, rfl, World.ownsRow_nil _ _ _ _, Below.refl _ _⟩
  case round =>
    obtain ⟨k, acc, hk, rfl, hacc, hF, hown, hbr⟩ := hrel
    have hsz := hbr.size
    by_cases hlt : k < l.length
    · have hcell : wr.cell? ⟨b, off + k, none⟩ = some (bc l[k]) := (hbr.cell (p := ⟨b, off + k, none⟩) hbw).trans (hc k hlt)
      have hki : (k : Int) < (l.length : Int) := by omega
      by_cases hl1 : k + 1 < l.length
      · have hcell1 : wr.cell? ⟨b, off + (k + 1), none⟩ = some (bc l[k + 1]) := (hbr.cell (p := ⟨b, off + (k + 1), none⟩) hbw).trans (hc (k + 1) hl1)
        rw [drop2 l k hl1, rtF_cons2] at hF
        have HD1 : Hid (l[k + 1] :: l.drop (k + 2) = l.drop (k + 1)) := (List.drop_eq_getElem_cons hl1).symm
        generalize l[k] = x at *
        generalize l[k + 1] = y at *
        unfold bc at hcell hcell1
        have hki1 : (k : Int) + 1 < (l.length : Int) := by omega
        clear hc
        by_cases hx0 : x.toNat = 0
        · rw [if_pos hx0] at hF
          have g0 : ((x.toNat : Int) == 0) = true := by simp [hx0]
          have g1 : ((x.toNat : Int) != 0) = false := by simp [hx0]
          have HX : Hid (bc x = .int .u8 0) := by unfold Hid bc; rw [hx0]; rfl
          clear hx0
          by_cases hy : y.toNat = 255
          · rw [if_pos hy] at hF
            have HF : Hid _ := hF
            have g2 : ((y.toNat : Int) != 255) = false := by simp [hy]
            have g3 : ((y.toNat : Int) == 1) = false := by simp [hy]
            clear hy hF
            go_wp2_with (at_builtin; refine wpList_append_own _ rfl _ _ 25 rfl w.heap.size 5 i0 (.int .u8 0) 1 1 Try.underlying25 hi hz0 hz1 hz2 rfl (by decide) _ _ _ rfl (hown.alloc _) ⟨wr.heap.size, 0, none⟩ 1 1 [.int .u8 0] rfl rfl news1 one1 (len_ok (by omega)).1 (len_ok (by omega)).2 (al_ok hsz) ?_)
            intro v' w1 hown' hgrow _
            have HO2 : Hid (w1.ownsRow w.heap.size 5 1 v' (acc ++ [x]).length ((acc ++ [x]).map bc)) := by
              rw [List.map_append, List.length_append]
              simp only [List.map_cons, List.map_nil]
              rw [HX.out]
              exact hown'
            have HB2 : Hid (Below w.heap.size w w1) := (hbr.alloc hbr.size _).grown hgrow (al_ok hsz) (own_block hown)
            clear hown hown' hgrow hbr hsz hcell hcell1
            go_wp2_with fail
            go_roundw
            case rel => exact ⟨k + 2, acc ++ [x], by omega, by go_num, by simp; omega, HF.out, HO2.out, HB2.out⟩
            case measure => simp [intOf]; omega
          · rw [if_neg hy] at hF
            have g2 : ((y.toNat : Int) != 255) = true := by simp; omega
            clear hy
            by_cases hy1 : y.toNat = 1
            · rw [if_pos hy1] at hF
              have HF : Hid _ := hF.symm
              have g3 : ((y.toNat : Int) == 1) = true := by simp [hy1]
              have hcv := reads_text (reads_own hown)
              have HB : Hid (Below w.heap.size w wr) := hbr
              clear hy1 hF hown hbr
              go_wp2_with fail
              go_ret3
              exact ⟨by rw [HF.out]; rfl, HB.out⟩
            · rw [if_neg hy1] at hF
              have HF : Hid _ := hF.symm
              have g3 : ((y.toNat : Int) == 1) = false := by simp; omega
              have HB : Hid (Below w.heap.size w wr) := hbr
              clear hy1 hF hown hbr
              go_wp2_with fail
              go_ret3
              exact ⟨by rw [HF.out]; rfl, HB.out⟩
        · rw [if_neg hx0, HD1.out] at hF
          have HF : Hid _ := hF
          have g0 : ((x.toNat : Int) == 0) = false := by simp; omega
          have g1 : ((x.toNat : Int) != 0) = true := by simp; omega
          clear hx0 hF
          go_wp2_with (at_builtin; refine wpList_append_own _ rfl _ _ 25 rfl w.heap.size 5 i0 (.int .u8 0) 1 1 Try.underlying25 hi hz0 hz1 hz2 rfl (by decide) _ _ _ rfl (hown.alloc _) ⟨wr.heap.size, 0, none⟩ 1 1 [.int .u8 (x.toNat : Int)] rfl rfl news1 one1 (len_ok (by omega)).1 (len_ok (by omega)).2 (al_ok hsz) ?_)
          intro v' w1 hown' hgrow _
          have HO2 : Hid (w1.ownsRow w.heap.size 5 1 v' (acc ++ [x]).length ((acc ++ [x]).map bc)) := by
            rw [List.map_append, List.length_append]
            exact hown'
          have HB2 : Hid (Below w.heap.size w w1) := (hbr.alloc hbr.size _).grown hgrow (al_ok hsz) (own_block hown)
          clear hown hown' hgrow hbr hsz hcell hcell1
          go_wp2_with fail
          go_roundw
          case rel => exact ⟨k + 1, acc ++ [x], by omega, by go_num, by simp; omega, HF.out, HO2.out, HB2.out⟩
          case measure => simp [intOf]; omega
      · have hl2 : k + 1 = l.length := by omega
        rw [drop1 l k hl2, rtF_one] at hF
        have HF : Hid _ := hF.symm
        have HDN : Hid (l.drop (k + 1) = []) := List.drop_eq_nil_of_le (by omega)
        generalize l[k] = x at *
        unfold bc at hcell
        clear hc hF
        have g5 : (l.length : Int) ≤ (k : Int) + 1 := by omega
        by_cases hx0 : x.toNat = 0
        · have g0 : ((x.toNat : Int) == 0) = true := by simp [hx0]
          have g1 : ((x.toNat : Int) != 0) = false := by simp [hx0]
          have HB : Hid (Below w.heap.size w wr) := hbr
          clear hx0 hown hbr hl2
          go_wp2_with fail
          go_ret3
          exact ⟨by rw [HF.out]; rfl, HB.out⟩
        · have g0 : ((x.toNat : Int) == 0) = false := by simp; omega
          have g1 : ((x.toNat : Int) != 0) = true := by simp; omega
          have HE : Hid (k + 1 = l.length) := hl2
          clear hx0 g5 hl2 hl1
          go_wp2_with (at_builtin; refine wpList_append_own _ rfl _ _ 25 rfl w.heap.size 5 i0 (.int .u8 0) 1 1 Try.underlying25 hi hz0 hz1 hz2 rfl (by decide) _ _ _ rfl (hown.alloc _) ⟨wr.heap.size, 0, none⟩ 1 1 [.int .u8 (x.toNat : Int)] rfl rfl news1 one1 (len_ok (by omega)).1 (len_ok (by omega)).2 (al_ok hsz) ?_)
          intro v' w1 hown' hgrow _
          have HO2 : Hid (w1.ownsRow w.heap.size 5 1 v' (acc ++ [x]).length ((acc ++ [x]).map bc)) := by
            rw [List.map_append, List.length_append]
            exact hown'
          have HB2 : Hid (Below w.heap.size w w1) := (hbr.alloc hbr.size _).grown hgrow (al_ok hsz) (own_block hown)
          clear hown hown' hgrow hbr hsz hcell
          go_wp2_with fail
          go_roundw
          case rel => exact ⟨k + 1, acc ++ [x], by omega, by go_num, by simp; omega, by rw [HDN.out, HF.out]; rfl, HO2.out, HB2.out⟩
          case measure => simp [intOf]; omega
    · have hke : k = l.length := by omega
      subst hke
      rw [List.drop_length] at hF
      have HF : Hid (rtF l [] 0 = ([], 0, 10)) := by unfold Hid; rw [← hF]; rfl
      have HB : Hid (Below w.heap.size w wr) := hbr
      clear hc hF hown hbr
      go_wp2_with fail
      go_ret3
      exact ⟨by rw [HF.out]; rfl, HB.out⟩
set_option maxRecDepth 100000 in
set_option maxHeartbeats 1000000 in
theorem refReadText_none (a : Option Addr) (cap : Nat) (w : World) :
    Calls Try.prog 30 #[.slice a 0 cap] w fun e w' => e = .returned (.tuple #[.string ⟨#[]⟩, .int .i64 0, .int .i64 10]) ∧ Below w.heap.size w w' := by
  go_enter Try.func30, Try.ntmps30
  go_wp2_with fail
  go_loop [6] (fun i => i = .int .i64 0) (fun _ => 0)
  case atStart => rfl
  case round =>
    obtain rfl := hrel
    go_wp2_with fail
    go_ret3
    exact ⟨rfl, Below.refl _ _⟩
theorem refReadText_any (v : Value) (l : List UInt8) (hl : l.length ≤ 10000) (w : World) (h : Reads w v l) :
    Calls Try.prog 30 #[v] w fun e w' => e = .returned (.tuple #[.string ⟨(rtF l [] 0).1.toArray⟩, .int .i64 (rtF l [] 0).2.1, .int .i64 (rtF l [] 0).2.2]) ∧ Below w.heap.size w w' := by
  rcases h with ⟨rfl, a, cap, rfl, _⟩ | ⟨b, off, cap, rfl, h2, h3, h4, h5, h6⟩
  · exact refReadText_none a cap w
  · exact refReadText_some b off cap l h2 hl w h5 h6
end Go.Proofs.Ytbcdmammedabmaa
