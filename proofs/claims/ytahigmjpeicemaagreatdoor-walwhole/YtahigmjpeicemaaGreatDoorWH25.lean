/- C3r K12 C1r C5r WR3, joined. -/
import Derived.Test.YtahigmjpeicemaaGreatDoorWH3
import Derived.Test.YtahigmjpeicemaaGreatDoorWH16
import Derived.Test.YtahigmjpeicemaaGreatDoorWH22
import Derived.Test.YtahigmjpeicemaaGreatDoorWH24
/- The contracts of the reference's Text and ReadText. -/
namespace Go.Proofs.YtahigmjpeicemaaGreatDoor
open Go.RowKit

set_option maxRecDepth 100000 in
set_option maxHeartbeats 1000000 in
theorem refText_any (s : ByteArray) (hs : s.size ≤ 10000) (w : World) :
    Calls Tryz.prog 45 #[.string s] w fun e w' => ∃ v, e = .returned v ∧ w'.ownsRow w.heap.size 5 1 v (tx s.data.toList).length ((tx s.data.toList).map bc) ∧ Below w.heap.size w w' := by
  obtain ⟨i0, hi, hz0, hz1, hz2⟩ := info_parts info5
  have hsl : s.data.toList.length = s.size := Array.length_toList
  have HO0 : Hid (w.ownsRow w.heap.size 5 1 (.slice none 0 0) (txb (s.data.toList.take 0)).length ((txb (s.data.toList.take 0)).map bc)) := World.ownsRow_nil _ _ _ _
  have HB0 : Hid (Below w.heap.size w w) := Below.refl _ _
  go_enter Tryz.func45, Tryz.ntmps45
  go_wp2_with fail
  go_loopw [3, 4] (fun v i wr => ∃ k : Nat, k ≤ s.size ∧ i = .int .i64 (k : Int) ∧ wr.ownsRow w.heap.size 5 1 v (txb (s.data.toList.take k)).length ((txb (s.data.toList.take k)).map bc) ∧ Below w.heap.size w wr) (fun _ i _ => s.size - (intOf i).toNat)
  case atStart => exact ⟨0, by omega, rfl, HO0.out, HB0.out⟩
  case round =>
    obtain ⟨k, hk, rfl, hown, hbr⟩ := hrel
    have hlen := txb_len (s.data.toList.take k)
    have htk : (s.data.toList.take k).length ≤ k := List.length_take_le _ _
    have hsz := hbr.size
    by_cases hlt : k < s.size
    · have hsn := txb_snoc s.data.toList k (by omega)
      have hxe : s[k] = s.data.toList[k]'(by omega) := rfl
      rw [← hxe] at hsn
      have HSN : Hid _ := hsn
      have HHL : Hid (s.data.toList.length = s.size) := hsl
      clear hsn hxe hsl
      generalize hx : s[k] = x at *
      generalize s.data.toList.take k = L at *
      by_cases hx0 : x.toNat = 0
      · have HX : Hid (x.toNat = 0) := hx0
        have i5 : ((x.toNat : Int) == 0) = true := by simp [hx0]
        have i6 : bc x = .int .u8 0 := by unfold bc; rw [hx0]; rfl
        have HBC : Hid (bc x = .int .u8 0) := i6
        clear hx0 i6
        go_wp2_with (at_builtin; refine wpList_append_own _ rfl _ _ 28 rfl w.heap.size 5 i0 (.int .u8 0) 1 1 Tryz.underlying28 hi hz0 hz1 hz2 rfl (by decide) _ _ _ rfl (hown.alloc _) ⟨wr.heap.size, 0, none⟩ 1 1 [.int .u8 (x.toNat : Int)] rfl rfl news1 one1 (len_ok (by omega)).1 (len_ok (by omega)).2 (al_ok hsz) ?_)
        intro v' w1 hown' hgrow _
        have HO1 : Hid (w1.ownsRow w.heap.size 5 1 v' ((txb L).length + 1) ((txb L).map bc ++ [bc x])) := hown'
        have HB1 : Hid (Below w.heap.size w w1) := (hbr.alloc hbr.size _).grown hgrow (al_ok hsz) (own_block hown)
        have hown1 : w1.ownsRow w.heap.size 5 1 v' ((txb L).length + 1) ((txb L).map bc ++ [bc x]) := HO1.out
        have hsz1 := HB1.out.size
        clear hown hown' hgrow hbr hsz
        go_wp2_with (at_builtin; refine wpList_append_own _ rfl _ _ 28 rfl w.heap.size 5 i0 (.int .u8 0) 1 1 Tryz.underlying28 hi hz0 hz1 hz2 rfl (by decide) _ _ _ rfl (hown1.alloc _) ⟨w1.heap.size, 0, none⟩ 1 1 [.int .u8 255] rfl rfl news1 one1 (len_ok (by omega)).1 (len_ok (by omega)).2 (al_ok hsz1) ?_)
        intro v2 w2 hown2 hgrow2 _
        have HO2 : Hid (w2.ownsRow w.heap.size 5 1 v2 (txb (s.data.toList.take (k + 1))).length ((txb (s.data.toList.take (k + 1))).map bc)) := by
          rw [HSN.out, if_pos HX.out, List.map_append, List.length_append]
          have e : ((txb L).map bc ++ [x, 255].map bc) = (txb L).map bc ++ [bc x, .int .u8 255] := rfl
          have e2 : (txb L).length + [x, 255].length = (txb L).length + 1 + 1 := rfl
          rw [e, e2]
          exact hown2
        have HB2 : Hid (Below w.heap.size w w2) := (HB1.out.alloc HB1.out.size _).grown hgrow2 (al_ok hsz1) (own_block hown1)
        clear hown1 hown2 hgrow2 hsz1 HO1 HB1
        go_wp2_with fail
        go_roundw
        case rel => exact ⟨k + 1, by omega, by go_num, HO2.out, HB2.out⟩
        case measure => simp [intOf]; omega
      · have HX : Hid (¬ x.toNat = 0) := hx0
        have i5 : ((x.toNat : Int) == 0) = false := by simp; omega
        clear hx0
        go_wp2_with (at_builtin; refine wpList_append_own _ rfl _ _ 28 rfl w.heap.size 5 i0 (.int .u8 0) 1 1 Tryz.underlying28 hi hz0 hz1 hz2 rfl (by decide) _ _ _ rfl (hown.alloc _) ⟨wr.heap.size, 0, none⟩ 1 1 [.int .u8 (x.toNat : Int)] rfl rfl news1 one1 (len_ok (by omega)).1 (len_ok (by omega)).2 (al_ok hsz) ?_)
        intro v' w1 hown' hgrow _
        have HO2 : Hid (w1.ownsRow w.heap.size 5 1 v' (txb (s.data.toList.take (k + 1))).length ((txb (s.data.toList.take (k + 1))).map bc)) := by
          rw [HSN.out, if_neg HX.out, List.map_append, List.length_append]
          exact hown'
        have HB2 : Hid (Below w.heap.size w w1) := (hbr.alloc hbr.size _).grown hgrow (al_ok hsz) (own_block hown)
        clear hown hown' hgrow hbr hsz
        go_wp2_with fail
        go_roundw
        case rel => exact ⟨k + 1, by omega, by go_num, HO2.out, HB2.out⟩
        case measure => simp [intOf]; omega
    · have hke : k = s.size := by omega
      subst hke
      have HTK : Hid (s.data.toList.take s.size = s.data.toList) := List.take_of_length_le (by omega)
      clear hsl
      generalize s.data.toList.take s.size = L at *
      go_wp2_with (at_builtin; refine wpList_append_own _ rfl _ _ 28 rfl w.heap.size 5 i0 (.int .u8 0) 1 1 Tryz.underlying28 hi hz0 hz1 hz2 rfl (by decide) _ _ _ rfl (hown.alloc _) ⟨wr.heap.size, 0, none⟩ 2 2 [.int .u8 0, .int .u8 1] rfl rfl news2 one2 (len_ok (by omega)).1 (len_ok (by omega)).2 (al_ok hsz) ?_)
      intro v' w1 hown' hgrow _
      have HO2 : Hid (w1.ownsRow w.heap.size 5 1 v' (tx s.data.toList).length ((tx s.data.toList).map bc)) := by
        unfold tx
        rw [← HTK.out, List.map_append, List.length_append]
        exact hown'
      have HB2 : Hid (Below w.heap.size w w1) := (hbr.alloc hbr.size _).grown hgrow (al_ok hsz) (own_block hown)
      clear hown hown' hgrow hbr hsz
      go_wp2_with fail
      go_ret
      exact ⟨_, rfl, HO2.out, HB2.out⟩
set_option maxRecDepth 100000 in
set_option maxHeartbeats 1000000 in
theorem refReadText_some (b off cap : Nat) (l : List UInt8) (h0 : 0 < l.length) (hl : l.length ≤ 10000) (w : World) (hbw : b < w.heap.size) (hc : ∀ j (h : j < l.length), w.cell? ⟨b, off + j, none⟩ = some (bc l[j])) :
    Calls Tryz.prog 111 #[.slice (some ⟨b, off, none⟩) l.length cap] w fun e w' => e = .returned (.tuple #[.string ⟨(rtF l [] 0).1.toArray⟩, .int .i64 (rtF l [] 0).2.1, .int .i64 (rtF l [] 0).2.2]) ∧ Below w.heap.size w w' := by
  obtain ⟨i0, hi, hz0, hz1, hz2⟩ := info_parts info5
  go_enter Tryz.func111, Tryz.ntmps111
  go_wp2_with fail
  go_loopw [5, 6] (fun v i wr => ∃ (k : Nat) (acc : List UInt8), k ≤ l.length ∧ i = .int .i64 (k : Int) ∧ acc.length ≤ k ∧ rtF (l.drop k) acc k = rtF l [] 0 ∧ wr.ownsRow w.heap.size 5 1 v acc.length (acc.map bc) ∧ Below w.heap.size w wr) (fun _ i _ => l.length - (intOf i).toNat)
  case atStart => exact ⟨0, [], by omega, rfl, by simp, rfl, World.ownsRow_nil _ _ _ _, Below.refl _ _⟩
  case round =>
    obtain ⟨k, acc, hk, rfl, hacc, hF, hown, hbr⟩ := hrel
    have hsz := hbr.size
    by_cases hlt : k < l.length
    · have hcell : wr.cell? ⟨b, off + k, none⟩ = some (bc l[k]) := (hbr.cell (p := ⟨b, off + k, none⟩) hbw).trans (hc k hlt)
      have hki : (k : Int) < (l.length : Int) := by omega
      by_cases hl1 : k + 1 < l.length
      · have hcell1 : wr.cell? ⟨b, off + (k + 1), none⟩ = some (bc l[k + 1]) := (hbr.cell (p := ⟨b, off + (k + 1), none⟩) hbw).trans (hc (k + 1) hl1)
        rw [drop2 l k hl1, rtF_cons2] at hF
        have HD1 : Hid (l[k + 1] :: l.drop (k + 2) = l.drop (k + 1)) := (List.drop_eq_getElem_cons hl1).symm
        generalize l[k] = x at *
        generalize l[k + 1] = y at *
        unfold bc at hcell hcell1
        have hki1 : (k : Int) + 1 < (l.length : Int) := by omega
        clear hc
        by_cases hx0 : x.toNat = 0
        · rw [if_pos hx0] at hF
          have g0 : ((x.toNat : Int) == 0) = true := by simp [hx0]
          have g1 : ((x.toNat : Int) != 0) = false := by simp [hx0]
          have HX : Hid (bc x = .int .u8 0) := by unfold Hid bc; rw [hx0]; rfl
          clear hx0
          by_cases hy : y.toNat = 255
          · rw [if_pos hy] at hF
            have HF : Hid _ := hF
            have g2 : ((y.toNat : Int) != 255) = false := by simp [hy]
            have g3 : ((y.toNat : Int) == 1) = false := by simp [hy]
            clear hy hF
            go_wp2_with (at_builtin; refine wpList_append_own _ rfl _ _ 28 rfl w.heap.size 5 i0 (.int .u8 0) 1 1 Tryz.underlying28 hi hz0 hz1 hz2 rfl (by decide) _ _ _ rfl (hown.alloc _) ⟨wr.heap.size, 0, none⟩ 1 1 [.int .u8 0] rfl rfl news1 one1 (len_ok (by omega)).1 (len_ok (by omega)).2 (al_ok hsz) ?_)
            intro v' w1 hown' hgrow _
            have HO2 : Hid (w1.ownsRow w.heap.size 5 1 v' (acc ++ [x]).length ((acc ++ [x]).map bc)) := by
              rw [List.map_append, List.length_append]
              simp only [List.map_cons, List.map_nil]
              rw [HX.out]
              exact hown'
            have HB2 : Hid (Below w.heap.size w w1) := (hbr.alloc hbr.size _).grown hgrow (al_ok hsz) (own_block hown)
            clear hown hown' hgrow hbr hsz hcell hcell1
            go_wp2_with fail
            go_roundw
            case rel => exact ⟨k + 2, acc ++ [x], by omega, by go_num, by simp; omega, HF.out, HO2.out, HB2.out⟩
            case measure => simp [intOf]; omega
          · rw [if_neg hy] at hF
            have g2 : ((y.toNat : Int) != 255) = true := by simp; omega
            clear hy
            by_cases hy1 : y.toNat = 1
            · rw [if_pos hy1] at hF
              have HF : Hid _ := hF.symm
              have g3 : ((y.toNat : Int) == 1) = true := by simp [hy1]
              have hcv := reads_text (reads_own hown)
              have HB : Hid (Below w.heap.size w wr) := hbr
              clear hy1 hF hown hbr
              go_wp2_with fail
              go_ret3
              exact ⟨by rw [HF.out]; rfl, HB.out⟩
            · rw [if_neg hy1] at hF
              have HF : Hid _ := hF.symm
              have g3 : ((y.toNat : Int) == 1) = false := by simp; omega
              have HB : Hid (Below w.heap.size w wr) := hbr
              clear hy1 hF hown hbr
              go_wp2_with fail
              go_ret3
              exact ⟨by rw [HF.out]; rfl, HB.out⟩
        · rw [if_neg hx0, HD1.out] at hF
          have HF : Hid _ := hF
          have g0 : ((x.toNat : Int) == 0) = false := by simp; omega
          have g1 : ((x.toNat : Int) != 0) = true := by simp; omega
          clear hx0 hF
          go_wp2_with (at_builtin; refine wpList_append_own _ rfl _ _ 28 rfl w.heap.size 5 i0 (.int .u8 0) 1 1 Tryz.underlying28 hi hz0 hz1 hz2 rfl (by decide) _ _ _ rfl (hown.alloc _) ⟨wr.heap.size, 0, none⟩ 1 1 [.int .u8 (x.toNat : Int)] rfl rfl news1 one1 (len_ok (by omega)).1 (len_ok (by omega)).2 (al_ok hsz) ?_)
          intro v' w1 hown' hgrow _
          have HO2 : Hid (w1.ownsRow w.heap.size 5 1 v' (acc ++ [x]).length ((acc ++ [x]).map bc)) := by
            rw [List.map_append, List.length_append]
            exact hown'
          have HB2 : Hid (Below w.heap.size w w1) := (hbr.alloc hbr.size _).grown hgrow (al_ok hsz) (own_block hown)
          clear hown hown' hgrow hbr hsz hcell hcell1
          go_wp2_with fail
          go_roundw
          case rel => exact ⟨k + 1, acc ++ [x], by omega, by go_num, by simp; omega, HF.out, HO2.out, HB2.out⟩
          case measure => simp [intOf]; omega
      · have hl2 : k + 1 = l.length := by omega
        rw [drop1 l k hl2, rtF_one] at hF
        have HF : Hid _ := hF.symm
        have HDN : Hid (l.drop (k + 1) = []) := List.drop_eq_nil_of_le (by omega)
        generalize l[k] = x at *
        unfold bc at hcell
        clear hc hF
        have g5 : (l.length : Int) ≤ (k : Int) + 1 := by omega
        by_cases hx0 : x.toNat = 0
        · have g0 : ((x.toNat : Int) == 0) = true := by simp [hx0]
          have g1 : ((x.toNat : Int) != 0) = false := by simp [hx0]
          have HB : Hid (Below w.heap.size w wr) := hbr
          clear hx0 hown hbr hl2
          go_wp2_with fail
          go_ret3
          exact ⟨by rw [HF.out]; rfl, HB.out⟩
        · have g0 : ((x.toNat : Int) == 0) = false := by simp; omega
          have g1 : ((x.toNat : Int) != 0) = true := by simp; omega
          have HE : Hid (k + 1 = l.length) := hl2
          clear hx0 g5 hl2 hl1
          go_wp2_with (at_builtin; refine wpList_append_own _ rfl _ _ 28 rfl w.heap.size 5 i0 (.int .u8 0) 1 1 Tryz.underlying28 hi hz0 hz1 hz2 rfl (by decide) _ _ _ rfl (hown.alloc _) ⟨wr.heap.size, 0, none⟩ 1 1 [.int .u8 (x.toNat : Int)] rfl rfl news1 one1 (len_ok (by omega)).1 (len_ok (by omega)).2 (al_ok hsz) ?_)
          intro v' w1 hown' hgrow _
          have HO2 : Hid (w1.ownsRow w.heap.size 5 1 v' (acc ++ [x]).length ((acc ++ [x]).map bc)) := by
            rw [List.map_append, List.length_append]
            exact hown'
          have HB2 : Hid (Below w.heap.size w w1) := (hbr.alloc hbr.size _).grown hgrow (al_ok hsz) (own_block hown)
          clear hown hown' hgrow hbr hsz hcell
          go_wp2_with fail
          go_roundw
          case rel => exact ⟨k + 1, acc ++ [x], by omega, by go_num, by simp; omega, by rw [HDN.out, HF.out]; rfl, HO2.out, HB2.out⟩
          case measure => simp [intOf]; omega
    · have hke : k = l.length := by omega
      subst hke
      rw [List.drop_length] at hF
      have HF : Hid (rtF l [] 0 = ([], 0, 10)) := by unfold Hid; rw [← hF]; rfl
      have HB : Hid (Below w.heap.size w wr) := hbr
      clear hc hF hown hbr
      go_wp2_with fail
      go_ret3
      exact ⟨by rw [HF.out]; rfl, HB.out⟩
set_option maxRecDepth 100000 in
set_option maxHeartbeats 1000000 in
theorem refReadText_none (a : Option Addr) (cap : Nat) (w : World) :
    Calls Tryz.prog 111 #[.slice a 0 cap] w fun e w' => e = .returned (.tuple #[.string ⟨#[]⟩, .int .i64 0, .int .i64 10]) ∧ Below w.heap.size w w' := by
  go_enter Tryz.func111, Tryz.ntmps111
  go_wp2_with fail
  go_loop [6] (fun i => i = .int .i64 0) (fun _ => 0)
  case atStart => rfl
  case round =>
    obtain rfl := hrel
    go_wp2_with fail
    go_ret3
    exact ⟨rfl, Below.refl _ _⟩
theorem refReadText_any (v : Value) (l : List UInt8) (hl : l.length ≤ 10000) (w : World) (h : Reads w v l) :
    Calls Tryz.prog 111 #[v] w fun e w' => e = .returned (.tuple #[.string ⟨(rtF l [] 0).1.toArray⟩, .int .i64 (rtF l [] 0).2.1, .int .i64 (rtF l [] 0).2.2]) ∧ Below w.heap.size w w' := by
  rcases h with ⟨rfl, a, cap, rfl, _⟩ | ⟨b, off, cap, rfl, h2, h3, h4, h5, h6⟩
  · exact refReadText_none a cap w
  · exact refReadText_some b off cap l h2 hl w h5 h6
end Go.Proofs.YtahigmjpeicemaaGreatDoor

/- The contracts of the reference's Fits, Right, Group, Part and Less. -/
namespace Go.Proofs.YtahigmjpeicemaaGreatDoor
open Go.RowKit

set_option maxRecDepth 100000 in
set_option maxHeartbeats 1000000 in
theorem fits_any (v : Value) (L : List ByteArray) (w : World) (h : SReads w v L) :
    Calls Tryz.prog 106 #[v] w fun e w' => e = .returned (.bool (mayB L)) ∧ w' = w := by
  obtain ⟨a, cap, rfl, hl⟩ := h.form
  unfold maxLen at hl
  have HR : Hid (SReads w (.slice a L.length cap) L) := h
  clear h
  by_cases h4 : 4 < L.length
  · have HM : Hid (mayB L = false) := mayB_no (by omega)
    have i1 : (4 : Int) < (L.length : Int) := by omega
    clear h4
    go_enter Tryz.func106, Tryz.ntmps106
    go_wp2_with fail
    go_ret
    exact ⟨by rw [HM.out]; rfl, rfl⟩
  · have i1 : ¬ (4 : Int) < (L.length : Int) := by omega
    go_enter Tryz.func106, Tryz.ntmps106
    go_wp2_with fail
    go_loop [3] (fun i => ∃ k : Nat, k ≤ L.length ∧ i = .int .i64 k ∧ Hid (∀ s ∈ L.take k, s.size ≤ 16)) (fun i => L.length - (intOf i).toNat)
    case atStart => exact ⟨0, Nat.zero_le _, rfl, by intro s hs; simp at hs⟩
    case round =>
      obtain ⟨k, hk, rfl, HK⟩ := hrel
      by_cases hlt : k < L.length
      · obtain ⟨b, off, rfl, _, hcell⟩ := HR.out.at k hlt
        have hsz : L[k].size ≤ maxLen := HR.out.size _ (List.getElem_mem hlt)
        unfold maxLen at hsz
        by_cases h16 : 16 < L[k].size
        · have HM : Hid (mayB L = false) := mayB_no (by intro h; have := h.2 _ (List.getElem_mem hlt); omega)
          have i2 : (16 : Int) < (L[k].size : Int) := by omega
          go_wp2_with fail
          go_ret
          exact ⟨by rw [HM.out]; rfl, rfl⟩
        · have i2 : ¬ (16 : Int) < (L[k].size : Int) := by omega
          have HK1 : Hid (∀ s ∈ L.take (k + 1), s.size ≤ 16) := by
            intro s hs
            rw [List.take_succ_eq_append_getElem hlt] at hs
            rcases List.mem_append.1 hs with hs | hs
            · exact HK.out s hs
            · simp at hs; subst hs; omega
          go_wp2_with fail
          go_round
          case rel => exact ⟨k + 1, by omega, by go_num, HK1⟩
          case measure => simp [intOf]; omega
      · have HM : Hid (mayB L = true) := by
          refine mayB_iff.2 ⟨by omega, ?_⟩
          have := HK.out
          rwa [List.take_of_length_le (by omega)] at this
        go_wp2_with fail
        go_ret
        exact ⟨by rw [HM.out]; rfl, rfl⟩
end Go.Proofs.YtahigmjpeicemaaGreatDoor

/- The contracts of the reference's Short and ReadShort. -/
namespace Go.Proofs.YtahigmjpeicemaaGreatDoor
open Go.RowKit

theorem own_below {w w' : World} {base : Nat} {e : TypeId} {v : Value} {n : Nat} {xs : List Value} (h : w.ownsRow base e 1 v n xs) (hb : Below w.heap.size w w') : w'.ownsRow base e 1 v n xs := by
  refine ⟨h.1, ?_⟩
  rcases h.2 with h2 | ⟨g, cap, cur, hv, hg, hw, r⟩
  · exact .inl h2
  · refine .inr ⟨g, cap, cur, hv, hg, ?_, r⟩
    rw [hb.block g (Array.getElem?_eq_some_iff.1 hw).1]; exact hw
set_option maxRecDepth 100000 in
set_option maxHeartbeats 1000000 in
theorem refShort_lo (n : Nat) (hn : n < 128) (w : World) :
    Calls Tryz.prog 44 #[.int .u64 (n : Int)] w fun e w' => ∃ v, e = .returned v ∧ w'.ownsRow w.heap.size 5 1 v (sh n).length ((sh n).map bc) ∧ Below w.heap.size w w' := by
  obtain ⟨i0, hi, hz0, hz1, hz2⟩ := info_parts info5
  have hlti : (n : Int) < 128 := by omega
  have hown : w.ownsRow w.heap.size 5 1 (.slice none 0 0) 0 [] := World.ownsRow_nil _ _ _ _
  have hsz : w.heap.size ≤ w.heap.size := Nat.le_refl _
  go_enter Tryz.func44, Tryz.ntmps44
  go_wp2_with (at_builtin; refine wpList_append_own _ rfl _ _ 28 rfl w.heap.size 5 i0 (.int .u8 0) 1 1 Tryz.underlying28 hi hz0 hz1 hz2 rfl (by decide) _ _ _ rfl (hown.alloc _) ⟨w.heap.size, 0, none⟩ 1 1 [.int .u8 (n : Int)] rfl rfl news1 one1 (len_ok (by omega)).1 (len_ok (by omega)).2 (al_ok hsz) ?_)
  intro v' w1 hown' hgrow _
  have HO2 : Hid (w1.ownsRow w.heap.size 5 1 v' (sh n).length ((sh n).map bc)) := by
    rw [sh_lo hn]
    simp only [List.map_cons, List.map_nil]
    rw [bc_of (by omega)]
    exact hown'
  have HB2 : Hid (Below w.heap.size w w1) := ((Below.refl _ _).alloc hsz _).grown hgrow (al_ok hsz) (own_block hown)
  clear hown hown' hgrow
  go_wp2_with fail
  go_ret
  exact ⟨_, rfl, HO2.out, HB2.out⟩
set_option maxRecDepth 100000 in
set_option maxHeartbeats 1000000 in
theorem refShort_hi (n : Nat) (hn : ¬ n < 128) (hn2 : n < 18446744073709551616) (w : World)
    (ih : ∀ w, Calls Tryz.prog 44 #[.int .u64 ((n / 128 : Nat) : Int)] w fun e w' => ∃ v, e = .returned v ∧ w'.ownsRow w.heap.size 5 1 v (sh (n / 128)).length ((sh (n / 128)).map bc) ∧ Below w.heap.size w w') :
    Calls Tryz.prog 44 #[.int .u64 (n : Int)] w fun e w' => ∃ v, e = .returned v ∧ w'.ownsRow w.heap.size 5 1 v (sh n).length ((sh n).map bc) ∧ Below w.heap.size w w' := by
  obtain ⟨i0, hi, hz0, hz1, hz2⟩ := info_parts info5
  have hlti : ¬ (n : Int) < 128 := by omega
  have HIH : Hid _ := ih
  obtain ⟨X, HXX⟩ : ∃ X, Hid (X = UInt8.ofNat (n % 128 + 128)) := ⟨_, rfl⟩
  have hl10 := sh_len10 (show n / 128 < 18446744073709551616 by omega)
  have hown : w.ownsRow w.heap.size 5 1 (.slice none 0 0) 0 [] := World.ownsRow_nil _ _ _ _
  have hsz : w.heap.size ≤ w.heap.size := Nat.le_refl _
  clear ih
  go_enter Tryz.func44, Tryz.ntmps44
  go_wp2_with (at_builtin; refine wpList_append_own _ rfl _ _ 28 rfl w.heap.size 5 i0 (.int .u8 0) 1 1 Tryz.underlying28 hi hz0 hz1 hz2 rfl (by decide) _ _ _ rfl (hown.alloc _) ⟨w.heap.size, 0, none⟩ 1 1 [.int .u8 ((n : Int) % 128 + 128)] rfl rfl news1 one1 (len_ok (by omega)).1 (len_ok (by omega)).2 (al_ok hsz) ?_)
  intro v' w1 hown' hgrow _
  have HO1 : Hid (w1.ownsRow w.heap.size 5 1 v' 1 [bc X]) := by
    rw [HXX.out, bc_of (by omega)]
    have e : ((n % 128 + 128 : Nat) : Int) = (n : Int) % 128 + 128 := by omega
    rw [e]
    exact hown'
  have HB1 : Hid (Below w.heap.size w w1) := ((Below.refl _ _).alloc hsz _).grown hgrow (al_ok hsz) (own_block hown)
  clear hown hown' hgrow hsz
  have ed : ((n / 128 : Nat) : Int) = (n : Int) / 128 := by omega
  rw [ed] at HIH
  go_wp2_with fail
  refine (Hid.out HIH _).mono ?_
  rintro e w2 ⟨v2, rfl, o2, b2⟩
  have hown2 : w2.ownsRow w.heap.size 5 1 v' 1 [bc X] := own_below HO1.out b2
  have HB2 : Hid (Below w.heap.size w w2) := HB1.out.trans (b2.mono HB1.out.size)
  have hsz2 := HB2.out.size
  obtain ⟨h00, _⟩ | ⟨sb, so, sc, rfl, _, _, _, _, g6⟩ := reads_own o2
  · have := sh_pos (n / 128); rw [h00] at this; simp at this
  have hps := sh_pos (n / 128)
  clear o2 b2 HO1 HB1
  go_wp2_with (at_builtin; refine wpList_append_own _ rfl _ _ 28 rfl w.heap.size 5 i0 (.int .u8 0) 1 1 Tryz.underlying28 hi hz0 hz1 hz2 rfl (by decide) _ _ _ rfl hown2 ⟨sb, so, none⟩ (sh (n / 128)).length sc ((sh (n / 128)).map bc) rfl (by simp) (newsR g6) one_bc (len_ok (by omega)).1 (len_ok (by omega)).2 hsz2 ?_)
  intro v3 w3 hown3 hgrow3 _
  have HO3 : Hid (w3.ownsRow w.heap.size 5 1 v3 (sh n).length ((sh n).map bc)) := by
    rw [sh_hi hn]
    simp only [List.map_cons, List.length_cons]
    rw [Nat.add_comm, ← HXX.out]
    exact hown3
  have HB3 : Hid (Below w.heap.size w w3) := HB2.out.grown hgrow3 hsz2 (own_block hown2)
  clear hown2 hown3 hgrow3 hsz2 g6
  go_wp2_with fail
  go_ret
  exact ⟨_, rfl, HO3.out, HB3.out⟩
theorem refShort_any (n : Nat) : n < 18446744073709551616 → ∀ w : World,
    Calls Tryz.prog 44 #[.int .u64 (n : Int)] w fun e w' => ∃ v, e = .returned v ∧ w'.ownsRow w.heap.size 5 1 v (sh n).length ((sh n).map bc) ∧ Below w.heap.size w w' := by
  induction n using Nat.strongRecOn with
  | _ n ih =>
    intro hn w
    by_cases h : n < 128
    · exact refShort_lo n h w
    · exact refShort_hi n h hn w (fun w => ih (n / 128) (by omega) (by omega) w)

set_option maxRecDepth 100000 in
set_option maxHeartbeats 1000000 in
theorem refReadShort_some (b off cap : Nat) (l : List UInt8) (h0 : 0 < l.length) (w : World) (hc : ∀ j (h : j < l.length), w.cell? ⟨b, off + j, none⟩ = some (bc l[j])) :
    Calls Tryz.prog 83 #[.slice (some ⟨b, off, none⟩) l.length cap] w fun e w' => e = .returned (.tuple #[.int .u64 (rsF l 0 0).1, .int .i64 (rsF l 0 0).2.1, .int .i64 (rsF l 0 0).2.2]) ∧ Below w.heap.size w w' := by
  go_enter Tryz.func83, Tryz.ntmps83
  go_wp2_with fail
  go_loop [5, 6, 7] (fun x wo i => ∃ k v : Nat, k ≤ l.length ∧ wo = .int .u64 ((128 ^ k : Nat) : Int) ∧ k ≤ 9 ∧ v < 128 ^ k ∧ i = .int .i64 (k : Int) ∧ x = .int .u64 (v : Int) ∧ rsF (l.drop k) k v = rsF l 0 0) (fun _ _ i => l.length - (intOf i).toNat)
  case atStart => exact ⟨0, 0, by omega, rfl, by omega, by decide, rfl, rfl, rfl⟩
  case round =>
    obtain ⟨k, v, hk, rfl, hk9, hv, rfl, rfl, hF⟩ := hrel
    by_cases hlt : k < l.length
    · have hcell := hc k hlt
      have hki : (k : Int) < (l.length : Int) := by omega
      rw [List.drop_eq_getElem_cons hlt, rsF_cons] at hF
      generalize l[k] = x at *
      have hx : x.toNat < 256 := UInt8.toNat_lt x
      unfold bc at hcell
      generalize x.toNat = y at *
      clear hc
      by_cases h9 : k = 9 ∧ 1 < y
      · rw [if_pos h9] at hF
        have HF : Hid _ := hF.symm
        have i1 : ((k : Int) == 9) = true := by simp; omega
        have i2 : ((y : Int) != 0) = true := by simp; omega
        have i3 : ((y : Int) != 1) = true := by simp; omega
        generalize 128 ^ k = q at *
        clear hF h9
        go_wp2_with fail
        go_ret3
        exact ⟨by rw [HF.out]; rfl, Below.refl _ _⟩
      · rw [if_neg h9] at hF
        have hfit := short_fit (y % 128) k hk9 (by omega) (fun h => by omega)
        have hp := pow128 k hk9
        have hw0 : ((y % 128 : Nat) : Int) = (y : Int) % 128 := by omega
        obtain ⟨Z, hZ⟩ : ∃ Z, Z = y % 128 * 128 ^ k := ⟨_, rfl⟩
        have hw1 : IntKind.u64.wrap ((y : Int) % 128 * ((128 ^ k : Nat) : Int)) = (Z : Int) := by
          rw [← hw0, ← Int.natCast_mul, IntKind.wrap_u64, hZ]; omega
        have hw2 : IntKind.u64.wrap ((v : Int) + (Z : Int)) = ((v + Z : Nat) : Int) := by
          rw [IntKind.wrap_u64]; omega
        rw [← hZ] at hF hfit
        by_cases h128 : 128 ≤ y
        · rw [if_pos h128] at hF
          have HF : Hid _ := hF
          have hk8 : k ≤ 8 := by omega
          have i1 : ¬ (y : Int) < 128 := by omega
          have i3 : ((k : Int) == 9) = false := by simp; omega
          have hp1 := pow128 (k + 1) (by omega)
          have hpe : 128 ^ (k + 1) = 128 ^ k * 128 := Nat.pow_succ ..
          have HV2 : Hid (v + Z < 128 ^ (k + 1)) := by
            have h2 : y % 128 * 128 ^ k ≤ 127 * 128 ^ k := Nat.mul_le_mul_right _ (by omega)
            unfold Hid; rw [hZ, hpe]; generalize 128 ^ k = q at *; omega
          have hw3 : IntKind.u64.wrap (((128 ^ k : Nat) : Int) * 128) = ((128 ^ (k + 1) : Nat) : Int) := by
            rw [IntKind.wrap_u64, hpe]; generalize 128 ^ k = q at *; omega
          generalize hq : 128 ^ k = q at *
          generalize hq1 : 128 ^ (k + 1) = q1 at *
          clear hF h9 h128 hpe hp hp1 hZ hfit hw0
          go_wp2_with fail
          go_round
          case rel => exact ⟨k + 1, v + Z, by omega, by rw [hq1], by omega, by rw [hq1]; exact HV2.out, by go_num, by go_num, HF.out⟩
          case measure => simp [intOf]; omega
        · rw [if_neg h128] at hF
          have i1 : (y : Int) < 128 := by omega
          generalize 128 ^ k = q at *
          clear hp hfit hw0 hZ
          by_cases h00 : y = 0 ∧ 0 < k
          · rw [if_pos h00] at hF
            have HF : Hid _ := hF.symm
            have i2 : ((y : Int) == 0) = true := by simp; omega
            have i4 : (0 : Int) < (k : Int) := by omega
            have i7 : ((y : Int) != 0) = false := by simp; omega
            by_cases i5 : k = 9
            · have i3 : ((k : Int) == 9) = true := by simp; omega
              clear hF h9 h128 h00 i5
              go_wp2_with fail
              go_ret3
              exact ⟨by rw [HF.out]; rfl, Below.refl _ _⟩
            · have i3 : ((k : Int) == 9) = false := by simp; omega
              clear hF h9 h128 h00 i5
              go_wp2_with fail
              go_ret3
              exact ⟨by rw [HF.out]; rfl, Below.refl _ _⟩
          · rw [if_neg h00] at hF
            have HF : Hid _ := hF.symm
            by_cases h9b : k = 9
            · have i3 : ((k : Int) == 9) = true := by simp; omega
              have i7 : ((y : Int) != 0) = true := by simp; omega
              have i8 : ((y : Int) != 1) = false := by simp; omega
              have i9 : ((y : Int) == 0) = false := by simp; omega
              clear hF h9 h128 h00 h9b
              go_wp2_with fail
              go_ret3
              exact ⟨by rw [HF.out]; rfl, Below.refl _ _⟩
            · have i3 : ((k : Int) == 9) = false := by simp; omega
              by_cases hy0 : y = 0
              · have i9 : ((y : Int) == 0) = true := by simp; omega
                have i4 : ¬ (0 : Int) < (k : Int) := by omega
                clear hF h9 h128 h00 h9b hy0
                go_wp2_with fail
                go_ret3
                exact ⟨by rw [HF.out]; rfl, Below.refl _ _⟩
              · have i9 : ((y : Int) == 0) = false := by simp; omega
                clear hF h9 h128 h00 h9b hy0
                go_wp2_with fail
                go_ret3
                exact ⟨by rw [HF.out]; rfl, Below.refl _ _⟩
    · have hke : k = l.length := by omega
      subst hke
      rw [List.drop_length] at hF
      have HF : Hid _ := hF.symm
      clear hc hF
      generalize 128 ^ l.length = q at *
      go_wp2_with fail
      go_ret3
      exact ⟨by rw [HF.out]; rfl, Below.refl _ _⟩
set_option maxRecDepth 100000 in
set_option maxHeartbeats 1000000 in
theorem refReadShort_none (a : Option Addr) (cap : Nat) (w : World) :
    Calls Tryz.prog 83 #[.slice a 0 cap] w fun e w' => e = .returned (.tuple #[.int .u64 0, .int .i64 0, .int .i64 10]) ∧ Below w.heap.size w w' := by
  go_enter Tryz.func83, Tryz.ntmps83
  go_wp2_with fail
  go_loop [7] (fun i => i = .int .i64 0) (fun _ => 0)
  case atStart => rfl
  case round =>
    obtain rfl := hrel
    go_wp2_with fail
    go_ret3
    exact ⟨rfl, Below.refl _ _⟩
theorem refReadShort_any (v : Value) (l : List UInt8) (w : World) (h : Reads w v l) :
    Calls Tryz.prog 83 #[v] w fun e w' => e = .returned (.tuple #[.int .u64 (rsF l 0 0).1, .int .i64 (rsF l 0 0).2.1, .int .i64 (rsF l 0 0).2.2]) ∧ Below w.heap.size w w' := by
  rcases h with ⟨rfl, a, cap, rfl, _⟩ | ⟨b, off, cap, rfl, h2, h3, h4, h5, h6⟩
  · exact refReadShort_none a cap w
  · exact refReadShort_some b off cap l h2 w h6
end Go.Proofs.YtahigmjpeicemaaGreatDoor

/- The contracts of the reference's Number and ReadNumber. -/
namespace Go.Proofs.YtahigmjpeicemaaGreatDoor
open Go.RowKit

theorem nb_get (v : Int) (k : Nat) (h : k < 8) : (nb v)[k]'(by rw [nb_len]; exact h) = UInt8.ofNat (byteOf (v + 9223372036854775808) k).toNat := by
  have e1 : k / 8 = 0 := by omega
  have e2 : k % 8 = k := by omega
  unfold nb eight bytesTo
  simp [e1, e2]
theorem nb_snoc (v : Int) (k : Nat) (h : k < 8) : (nb v).take (k + 1) = (nb v).take k ++ [UInt8.ofNat (byteOf (v + 9223372036854775808) k).toNat] := by
  rw [List.take_succ_eq_append_getElem (by rw [nb_len]; exact h), nb_get v k h]
theorem worth_eq (k : Nat) (h : k < 8) : (72057594037927936 / 256 ^ k : Nat) = 2 ^ (8 * (7 - k)) := by
  match k, h with
  | 0, _ => decide
  | 1, _ => decide
  | 2, _ => decide
  | 3, _ => decide
  | 4, _ => decide
  | 5, _ => decide
  | 6, _ => decide
  | 7, _ => decide
theorem worth_next (k : Nat) : (72057594037927936 / 256 ^ k / 256 : Nat) = 72057594037927936 / 256 ^ (k + 1) := by
  rw [Nat.div_div_eq_div_mul, Nat.pow_succ]
set_option maxRecDepth 100000 in
set_option maxHeartbeats 1000000 in
theorem refNumber_any (v : Int) (h1 : -9223372036854775808 ≤ v) (h2 : v ≤ 9223372036854775807) (w : World) :
    Calls Tryz.prog 43 #[.int .i64 v] w fun e w' => ∃ x, e = .returned x ∧ w'.ownsRow w.heap.size 5 1 x 8 ((nb v).map bc) ∧ Below w.heap.size w w' := by
  obtain ⟨i0, hi, hz0, hz1, hz2⟩ := info_parts info5
  obtain ⟨U, hU⟩ : ∃ U, U = v + 9223372036854775808 := ⟨_, rfl⟩
  have hu : IntKind.u64.wrap (IntKind.u64.wrap v + 9223372036854775808) = U := by rw [IntKind.wrap_u64, IntKind.wrap_u64]; omega
  have u1 : 0 ≤ U := by omega
  have u2 : U < 18446744073709551616 := by omega
  have HU : Hid (v + 9223372036854775808 = U) := hU.symm
  clear hU h1 h2
  go_enter Tryz.func43, Tryz.ntmps43
  go_wp2_with fail
  go_loopw [3, 5, 6] (fun x wo i wr => ∃ k : Nat, k ≤ 8 ∧ i = .int .i64 (k : Int) ∧ wo = .int .u64 ((72057594037927936 / 256 ^ k : Nat) : Int) ∧ wr.ownsRow w.heap.size 5 1 x k (((nb v).take k).map bc) ∧ Below w.heap.size w wr) (fun _ _ i _ => 8 - (intOf i).toNat)
  case atStart => exact ⟨0, by omega, rfl, rfl, World.ownsRow_nil _ _ _ _, Below.refl _ _⟩
  case round =>
    obtain ⟨k, hk, rfl, rfl, hown, hbr⟩ := hrel
    have hsz := hbr.size
    clear hu
    by_cases hlt : k < 8
    · have HSN : Hid _ := nb_snoc v k hlt
      have hwe := worth_eq k hlt
      have hwn := worth_next k
      have hby := byteOf_bd U k
      have hbe : byteOf U k = U / ((72057594037927936 / 256 ^ k : Nat) : Int) % 256 := by
        unfold byteOf; rw [hwe, Int.natCast_pow]; rfl
      have hpos : 0 < (72057594037927936 / 256 ^ k : Nat) := by rw [hwe]; exact Nat.pow_pos (by omega)
      have hle : (72057594037927936 / 256 ^ k : Nat) ≤ 72057594037927936 := Nat.div_le_self _ _
      generalize hq : (72057594037927936 / 256 ^ k : Nat) = q at *
      generalize hq1 : (72057594037927936 / 256 ^ (k + 1) : Nat) = q1 at *
      have hq0 : (q : Int) ≠ 0 := by omega
      have et : Int.tdiv U (q : Int) = U / (q : Int) := Int.tdiv_eq_ediv_of_nonneg u1
      have d1 : 0 ≤ U / (q : Int) := Int.ediv_nonneg u1 (by omega)
      have d2 : U / (q : Int) ≤ U := Int.ediv_le_self _ u1
      have hwq : (q : Int) / 256 = (q1 : Int) := by omega
      have hm : ((nb v).take k).length = k := by simp [nb_len]; omega
      have HBB : Hid (0 ≤ byteOf U k ∧ byteOf U k ≤ 255) := hby
      have HBE : Hid (byteOf U k = U / (q : Int) % 256) := hbe
      clear hwe hwn hby hbe
      go_wp2_with (at_builtin; refine wpList_append_own _ rfl _ _ 28 rfl w.heap.size 5 i0 (.int .u8 0) 1 1 Tryz.underlying28 hi hz0 hz1 hz2 rfl (by decide) _ _ _ rfl (hown.alloc _) ⟨wr.heap.size, 0, none⟩ 1 1 [.int .u8 (U / (q : Int) % 256)] rfl rfl news1 one1 (len_ok (by omega)).1 (len_ok (by omega)).2 (al_ok hsz) ?_)
      intro v' w1 hown' hgrow _
      have HO2 : Hid (w1.ownsRow w.heap.size 5 1 v' (k + 1) (((nb v).take (k + 1)).map bc)) := by
        rw [HSN.out, HU.out, List.map_append, List.map_take]
        simp only [List.map_cons, List.map_nil]
        have hb := HBB.out
        rw [bc_of (by omega), Int.toNat_of_nonneg hb.1, HBE.out]
        exact hown'
      have HB2 : Hid (Below w.heap.size w w1) := (hbr.alloc hbr.size _).grown hgrow (al_ok hsz) (own_block hown)
      clear hown hown' hgrow hbr hsz HSN HBB HBE et d1 d2
      go_wp2_with fail
      go_roundw
      case rel => exact ⟨k + 1, by omega, by go_num, by rw [hq1], HO2.out, HB2.out⟩
      case measure => simp [intOf]; omega
    · have hke : k = 8 := by omega
      subst hke
      have e : (nb v).take 8 = nb v := List.take_of_length_le (by rw [nb_len]; omega)
      rw [e] at hown
      have HO2 : Hid _ := hown
      have HB2 : Hid (Below w.heap.size w wr) := hbr
      clear hown hbr e
      generalize (72057594037927936 / 256 ^ 8 : Nat) = q at *
      go_wp2_with fail
      go_ret
      exact ⟨_, rfl, HO2.out, HB2.out⟩

set_option maxRecDepth 100000 in
set_option maxHeartbeats 1000000 in
theorem refReadNumber_any (v : Value) (l : List UInt8) (w : World) (h : Reads w v l) :
    Calls Tryz.prog 82 #[v] w fun e w' => e = .returned (.tuple #[.int .i64 (rnF l).1, .int .i64 (rnF l).2.1, .int .i64 (rnF l).2.2]) ∧ Below w.heap.size w w' := by
  by_cases h8 : l.length < 8
  · have e : rnF l = (0, 0, 10) := by unfold rnF; rw [if_pos h8]
    rw [e]
    obtain ⟨a, cap, rfl, _⟩ := h.form
    have i1 : (l.length : Int) < 8 := by omega
    clear h e
    go_enter Tryz.func82, Tryz.ntmps82
    go_wp2_with fail
    go_ret3
    exact ⟨rfl, Below.refl _ _⟩
  · have e : rnF l = (beval ((l.take 8).map fun x => (x.toNat : Int)) - 9223372036854775808, 8, 0) := by unfold rnF; rw [if_neg h8]
    rw [e]
    rcases h with ⟨rfl, a, cap, rfl, _⟩ | ⟨b, off, cap, rfl, g2, g3, g4, g5, g6⟩
    · simp at h8
    obtain ⟨zs, hzs⟩ : ∃ zs, zs = ((l.take 8).map fun x => (x.toNat : Int)) := ⟨_, rfl⟩
    rw [← hzs]
    have hlen : zs.length = 8 := by rw [hzs]; simp; omega
    have hz : ∀ x ∈ zs, 0 ≤ x ∧ x ≤ 255 := by
      rw [hzs]
      intro x hx
      obtain ⟨y, _, rfl⟩ := List.mem_map.1 hx
      have := UInt8.toNat_lt y
      omega
    have hcc : ∀ i, i < 8 → w.cell? ⟨b, off + i, none⟩ = some (.int .u8 (zs.getD i 0)) := by
      intro i hi
      rw [g6 i (by omega), hzs]
      unfold bc
      have e : ((l.take 8).map fun x => (x.toNat : Int)).getD i 0 = (l[i]'(by omega)).toNat := by
        have hl' : i < l.length := by omega
        simp [hi, List.getElem?_eq_getElem hl']
      rw [e]
    have i1 : ¬ (l.length : Int) < 8 := by omega
    have i2 : (8 : Int) ≤ (l.length : Int) := by omega
    have HBE : Hid _ := beval8 zs hlen hz
    clear g6 h8 e hzs
    go_enter Tryz.func82, Tryz.ntmps82
    go_wp2_with fail
    go_loop [5, 6] (fun n i => ∃ k : Nat, k ≤ 8 ∧ i = .int .i64 k ∧ n = .int .u64 (beval (zs.take k))) (fun _ i => 8 - (intOf i).toNat)
    case atStart => exact ⟨0, by omega, rfl, rfl⟩
    case round =>
      obtain ⟨k, hk, rfl, rfl⟩ := hrel
      by_cases hlt : k < 8
      · have hcell := hcc k hlt
        have hx := hz _ (getD_mem zs k (by omega))
        have HT : Hid _ := beval_take zs k (by omega)
        have hb := beval_bd zs hz k
        have hki : (k : Int) < (l.length : Int) := by omega
        have hq : (256 : Int) ^ k ≤ 72057594037927936 := by
          have : (256 : Int) ^ k ≤ 256 ^ 7 := by
            have h7 : (256 : Nat) ^ k ≤ 256 ^ 7 := Nat.pow_le_pow_right (by omega) (by omega)
            exact_mod_cast h7
          simpa using this
        generalize zs.getD k 0 = x at *
        generalize beval (zs.take k) = n at *
        generalize (256 : Int) ^ k = q at *
        obtain ⟨n1, n2⟩ := hb
        obtain ⟨x1, x2⟩ := hx
        have n3 : n < 72057594037927936 := by omega
        have hc5 : 256 * n + x = n * 256 + x := by omega
        clear hcc hq n2
        go_wp2_with fail
        go_round
        case rel => exact ⟨k + 1, by omega, by go_num, by rw [HT.out]⟩
        case measure => simp [intOf]; omega
      · have hke : k = 8 := by omega
        subst hke
        have e : zs.take 8 = zs := List.take_of_length_le (by omega)
        rw [e]
        have hb1 := HBE.out.1
        have hb2 := HBE.out.2
        clear hcc hz hlen HBE e
        obtain ⟨n, HNE⟩ : ∃ n, Hid (n = beval zs) := ⟨_, rfl⟩
        rw [← HNE.out] at hb1 hb2 ⊢
        have ht : IntKind.i64.wrap (IntKind.u64.wrap (n - 9223372036854775808)) = n - 9223372036854775808 := by
          rw [IntKind.wrap_u64, IntKind.wrap_i64]; omega
        clear hb1 hb2
        go_wp2_with fail
        go_ret3
        exact ⟨by rw [← HNE.out]; rfl, Below.refl _ _⟩
end Go.Proofs.YtahigmjpeicemaaGreatDoor

/- The reference's May, Right and Write, of records. -/
namespace Go.Proofs.YtahigmjpeicemaaGreatDoor
open Go.RowKit Go.Shelf

set_option maxRecDepth 100000 in
theorem wrefTime_any (t : Int) (w : World) : Calls Tryz.prog 76 #[.int .i64 t] w fun e w' => e = .returned (.bool (isTm t)) ∧ w' = w := by
  by_cases h1 : 0 ≤ t
  · by_cases h2 : t ≤ 1099511627776
    · have HF : Hid (isTm t = true) := isTm_iff.2 ⟨h1, h2⟩
      go_enter Tryz.func76, Tryz.ntmps76
      go_wp2_with fail
      go_ret
      exact ⟨by rw [HF.out]; first | rfl | (exact ret_bool (by simp; omega)), rfl⟩
    · have HF : Hid (isTm t = false) := by unfold Hid isTm; simp; omega
      have d2 : decide (t ≤ 1099511627776) = false := decide_eq_false h2
      go_enter Tryz.func76, Tryz.ntmps76
      go_wp2_with fail
      go_ret
      exact ⟨by rw [HF.out]; first | rfl | (exact ret_bool (by assumption)), rfl⟩
  · have HF : Hid (isTm t = false) := by unfold Hid isTm; simp; omega
    have d1 : decide (0 ≤ t) = false := decide_eq_false h1
    go_enter Tryz.func76, Tryz.ntmps76
    go_wp2_with fail
    go_ret
    exact ⟨by rw [HF.out]; first | rfl | (exact ret_bool (by assumption)), rfl⟩
set_option maxRecDepth 100000 in
theorem wrefMay_any (f : Fa) (w : World) (h : FaR w f) : Calls Tryz.prog 77 #[f.val] w fun e w' => e = .returned (.bool (mayP f.p)) ∧ Below w.heap.size w w' := by
  obtain ⟨v, D, t, x⟩ := f
  obtain ⟨hr, hb⟩ := h
  simp only at hr
  obtain ⟨a, cap, rfl, hm⟩ := hr.form
  have HP : Hid (mayP (Fa.p ⟨.slice a D.length cap, D, t, x⟩) = (mayB D && isTm t)) := rfl
  unfold Fa.val
  simp only
  obtain ⟨q, Hq⟩ := hid_ex (mayP (Fa.p ⟨.slice a D.length cap, D, t, x⟩))
  rw [← Hq.out] at HP ⊢
  have HB : Hid (Below w.heap.size w (w.alloc (.cells #[.slice a D.length cap, .int .i64 t, .int .i64 x] 90))) := (Below.refl _ _).alloc (Nat.le_refl _) _
  have HK : Hid (SReads (w.alloc (.cells #[.slice a D.length cap, .int .i64 t, .int .i64 x] 90)) (.slice a D.length cap) D) := hr.below HB.out
  clear hr hb Hq
  go_enter Tryz.func77, Tryz.ntmps77
  go_wp2_with fail
  refine (fits_any _ D _ HK.out).mono ?_
  rintro e w1 ⟨rfl, hw⟩
  subst w1
  cases hmb : mayB D with
  | false =>
    rw [hmb] at HP
    go_wp2_with fail
    go_ret
    exact ⟨by rw [HP.out]; rfl, HB.out⟩
  | true =>
    rw [hmb] at HP
    go_wp2_with fail
    refine (wrefTime_any t _).mono ?_
    rintro e w2 ⟨rfl, hw⟩
    subst w2
    go_wp2_with fail
    go_ret
    exact ⟨by rw [HP.out]; rfl, HB.out⟩
set_option maxRecDepth 100000 in
set_option maxHeartbeats 1000000 in
theorem wrefRight_any (r : Rc) (w : World) (h : RcOk w r) : Calls Tryz.prog 42 #[r.val] w fun e w' => e = .returned (.bool (rightR r.p r.m)) ∧ Below w.heap.size w w' := by
  obtain ⟨a, cap, hv, hl1, hl2⟩ := h.f.form
  unfold maxLen at hl2
  obtain ⟨q, Hq⟩ := hid_ex (rightR r.p r.m)
  rw [← Hq.out]
  have H0 : Hid (r.fs.length = 0 → q = isTm r.m) := fun z => Hq.out.trans (rightR_0 z)
  have H1 : Hid (¬ r.fs.length = 0 → q = (r.m == -1 && decide (r.fs.length ≤ 16) && r.fs.all fun f => mayP f.p)) := fun z => Hq.out.trans (rightR_1 z)
  have HF0 : Hid (FReads w (.slice a r.fs.length cap) r.fs) := by rw [← hv]; exact h.f
  have HB : Hid (Below w.heap.size w (w.alloc (.cells #[.slice a r.fs.length cap, .int .i64 r.m] 46))) := (Below.refl _ _).alloc (Nat.le_refl _) _
  unfold Rc.val
  rw [hv]
  clear hv h Hq
  obtain ⟨rv, fs, m⟩ := r
  simp only at *
  by_cases h0 : fs.length = 0
  · have HQ : Hid (q = isTm m) := H0.out h0
    clear H0 H1 HF0
    rw [h0] at HB ⊢
    clear h0
    go_enter Tryz.func42, Tryz.ntmps42
    go_wp2_with fail
    refine (wrefTime_any m _).mono ?_
    rintro e w1 ⟨rfl, hw⟩
    subst w1
    rw [← HQ.out]
    go_wp2_with fail
    go_ret
    exact ⟨rfl, HB.out⟩
  · have HQ : Hid (q = (m == -1 && decide (fs.length ≤ 16) && fs.all fun f => mayP f.p)) := H1.out h0
    have h0' : ¬ (fs.length : Int) = 0 := by omega
    clear H0 H1
    by_cases h1 : m = -1
    · have b1 : (m == -1) = true := by simpa using h1
      have HQ1 : Hid (q = (decide (fs.length ≤ 16) && fs.all fun f => mayP f.p)) := by have := HQ.out; rw [b1] at this; simpa [Hid] using this
      clear HQ
      by_cases h2 : fs.length ≤ 16
      · have h2' : ¬ (16 : Int) < (fs.length : Int) := by omega
        have d2 : decide ((16 : Int) < (fs.length : Int)) = false := decide_eq_false h2'
        have HQ2 : Hid (q = fs.all fun f => mayP f.p) := by have := HQ1.out; rw [decide_eq_true h2] at this; simpa [Hid] using this
        subst h1
        clear HQ1 b1
        go_enter Tryz.func42, Tryz.ntmps42
        go_wp2_with fail
        go_loopw [3] (fun i wr => ∃ k : Nat, k ≤ fs.length ∧ i = .int .i64 (k : Int) ∧ Hid (∀ j (hj : j < fs.length), j < k → mayP fs[j].p = true) ∧ Hid (Below (w.heap.size + 1) (w.alloc (.cells #[.slice a fs.length cap, .int .i64 (-1)] 46)) wr)) (fun i _ => fs.length - (intOf i).toNat)
        case atStart => exact ⟨0, by omega, rfl, fun j hj h => absurd h (by omega), Below.refl _ _⟩
        case round =>
          obtain ⟨k, hk, rfl, HP, HBr⟩ := hrel
          have c0 := HBr.out.cell (p := ⟨w.heap.size, 0, none⟩) (by simp)
          simp [go_sem] at c0
          have hsz := HBr.out.size
          simp at hsz
          have HBw : Hid (Below w.heap.size w wr) := HB.out.trans (HBr.out.mono (by omega))
          by_cases hlt : k < fs.length
          · obtain ⟨b, off, rfl, hb⟩ := HF0.out.ptr (by omega)
            obtain ⟨g, Hg⟩ := hid_ex fs[k]
            obtain ⟨d0, d1, d2', hfr⟩ := (HF0.out.below HBw.out).three hlt g Hg.out
            obtain ⟨ga, gcp, hgv, _⟩ := hfr.r.form
            have HM : Hid (Calls Tryz.prog 77 #[.agg #[.slice ga g.D.length gcp, .int .i64 g.t, .int .i64 g.x]] wr fun e w' => e = .returned (.bool (mayP g.p)) ∧ Below wr.heap.size wr w') := by
              have := wrefMay_any g wr hfr
              unfold Fa.val at this
              rw [hgv] at this
              exact this
            rw [hgv] at d0
            clear hfr hgv
            go_wp2_with fail
            refine HM.out.mono ?_
            rintro e w' ⟨rfl, hb'⟩
            have HBn : Hid (Below (w.heap.size + 1) (w.alloc (.cells #[.slice (some ⟨b, off, none⟩) fs.length cap, .int .i64 (-1)] 46)) w') := HBr.out.trans (hb'.mono (by omega))
            have HBe : Hid (Below w.heap.size w w') := HBw.out.trans (hb'.mono HBw.out.size)
            clear hb' c0 d0 d1 d2' HM
            obtain ⟨z, Hz⟩ := hid_ex (mayP g.p)
            rw [← Hz.out]
            cases z with
            | false =>
              have HT : Hid (q = false) := by
                unfold Hid
                rw [HQ2.out, List.all_eq_false]
                exact ⟨fs[k], List.getElem_mem hlt, by rw [← Hg.out, ← Hz.out]; simp⟩
              go_wp2_with fail
              go_ret
              exact ⟨by rw [HT.out]; rfl, HBe.out⟩
            | true =>
              have HN : Hid (∀ j (hj : j < fs.length), j < k + 1 → mayP fs[j].p = true) := by
                intro j hj hjk
                rcases Nat.lt_or_ge j k with h9 | h9
                · exact HP.out j hj h9
                · obtain rfl : j = k := by omega
                  rw [← Hg.out, ← Hz.out]
              go_wp2_with fail
              go_roundw
              case rel => exact ⟨k + 1, by omega, by go_num, HN, HBn⟩
              case measure => simp [intOf]; omega
          · have HT : Hid (q = true) := by
              unfold Hid
              rw [HQ2.out, List.all_eq_true]
              intro r hr
              obtain ⟨j, hj, rfl⟩ := List.getElem_of_mem hr
              exact HP.out j hj (by omega)
            go_wp2_with fail
            go_ret
            exact ⟨by rw [HT.out]; rfl, HBw.out⟩
      · have h2' : (16 : Int) < (fs.length : Int) := by omega
        have HQ2 : Hid (q = false) := by have := HQ1.out; rw [decide_eq_false h2] at this; simpa [Hid] using this
        subst h1
        go_enter Tryz.func42, Tryz.ntmps42
        go_wp2_with fail
        go_ret
        exact ⟨by rw [HQ2.out]; rfl, HB.out⟩
    · have b1 : (m != -1) = true := by simpa using h1
      have b2 : (m == -1) = false := by simpa using h1
      have HQ2 : Hid (q = false) := by have := HQ.out; rw [b2] at this; simpa [Hid] using this
      go_enter Tryz.func42, Tryz.ntmps42
      go_wp2_with fail
      go_ret
      exact ⟨by rw [HQ2.out]; rfl, HB.out⟩
end Go.Proofs.YtahigmjpeicemaaGreatDoor
