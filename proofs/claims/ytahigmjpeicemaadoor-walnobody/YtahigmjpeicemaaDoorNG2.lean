/- C4 Pl W1 W10, joined. -/
import Derived.Test.YtahigmjpeicemaaDoorNG1
import Derived.WalkKit
import Derived.Laws.Bits64
import Derived.Test.YtahigmjpeicemaaDoorRows
import Derived.WalkSpells
import Derived.WalkLawsBesides
import Derived.Laws.Externs
import Derived.Lib.Mul64
import Derived.Laws.Bits64b
import Derived.Deep.RegionHeld3
/- The contract of code.ReadText. -/
namespace Go.Proofs.YtahigmjpeicemaaDoor
open Go.RowKit

/-- What ReadText tells of bytes, of which i were read, and made acc: the text, how many, what is wrong. -/
def rtF : List UInt8 → List UInt8 → Nat → List UInt8 × Nat × Int
  | [], _, _ => ([], 0, 10)
  | [_], _, _ => ([], 0, 10)
  | x :: y :: l, acc, i =>
    if x.toNat = 0 then
      if y.toNat = 255 then rtF l (acc ++ [x]) (i + 2)
      else if y.toNat = 1 then (acc, i + 2, 0) else ([], 0, 3)
    else rtF (y :: l) (acc ++ [x]) (i + 1)
theorem rtF_cons2 (x y : UInt8) (l acc : List UInt8) (i : Nat) : rtF (x :: y :: l) acc i = if x.toNat = 0 then (if y.toNat = 255 then rtF l (acc ++ [x]) (i + 2) else if y.toNat = 1 then (acc, i + 2, 0) else ([], 0, 3)) else rtF (y :: l) (acc ++ [x]) (i + 1) := by rw [rtF]
theorem rtF_one (x : UInt8) (acc : List UInt8) (i : Nat) : rtF [x] acc i = ([], 0, 10) := by rw [rtF]
theorem drop2 (l : List UInt8) (k : Nat) (h : k + 1 < l.length) : l.drop k = l[k] :: l[k + 1] :: l.drop (k + 2) := by
  rw [List.drop_eq_getElem_cons (by omega), List.drop_eq_getElem_cons h]
theorem drop1 (l : List UInt8) (k : Nat) (h : k + 1 = l.length) : l.drop k = [l[k]] := by
  rw [List.drop_eq_getElem_cons (by omega), List.drop_eq_nil_of_le (by omega)]

/-- What holds at each jump to the fault. -/
def JRt (l : List UInt8) (w : World) (a' : Act) (w' : World) : Prop := Below w.heap.size w w' ∧ ∃ (E : Int) (u0 u1 u2 u3 u4 u5 u7 u8 u9 u10 u11 u12 u13 u14 u15 u16 u17 u18 u19 u20 u21 u22 u23 u24 u25 u26 u27 u28 u29 u30 u31 u32 u33 u34 u35 u36 u37 u38 u39 u40 u41 u42 u43 u44 u45 u46 u47 : Value), a' = { tmps := #[u0, u1, u2, u3, u4, u5, .int .i64 E, u7, u8, u9, u10, u11, u12, u13, u14, u15, u16, u17, u18, u19, u20, u21, u22, u23, u24, u25, u26, u27, u28, u29, u30, u31, u32, u33, u34, u35, u36, u37, u38, u39, u40, u41, u42, u43, u44, u45, u46, u47], defers := [] } ∧ rtF l [] 0 = ([], 0, E)
theorem JRt_of {l : List UInt8} {w w' : World} {E : Int} {u0 u1 u2 u3 u4 u5 u7 u8 u9 u10 u11 u12 u13 u14 u15 u16 u17 u18 u19 u20 u21 u22 u23 u24 u25 u26 u27 u28 u29 u30 u31 u32 u33 u34 u35 u36 u37 u38 u39 u40 u41 u42 u43 u44 u45 u46 u47 : Value} (hb : Below w.heap.size w w') (h : rtF l [] 0 = ([], 0, E)) : JRt l w { tmps := #[u0, u1, u2, u3, u4, u5, .int .i64 E, u7, u8, u9, u10, u11, u12, u13, u14, u15, u16, u17, u18, u19, u20, u21, u22, u23, u24, u25, u26, u27, u28, u29, u30, u31, u32, u33, u34, u35, u36, u37, u38, u39, u40, u41, u42, u43, u44, u45, u46, u47], defers := [] } w' :=
  ⟨hb, E, u0, u1, u2, u3, u4, u5, u7, u8, u9, u10, u11, u12, u13, u14, u15, u16, u17, u18, u19, u20, u21, u22, u23, u24, u25, u26, u27, u28, u29, u30, u31, u32, u33, u34, u35, u36, u37, u38, u39, u40, u41, u42, u43, u44, u45, u46, u47, rfl, h⟩

set_option maxRecDepth 100000 in
set_option maxHeartbeats 1000000 in
theorem readText_some (b off cap : Nat) (l : List UInt8) (h0 : 0 < l.length) (hl : l.length ≤ 10000) (w : World) (hbw : b < w.heap.size) (hc : ∀ j (h : j < l.length), w.cell? ⟨b, off + j, none⟩ = some (bc l[j])) :
    Calls Tryd.prog 88 #[.slice (some ⟨b, off, none⟩) l.length cap] w fun e w' => e = .returned (.tuple #[.string ⟨(rtF l [] 0).1.toArray⟩, .int .i64 (rtF l [] 0).2.1, .int .i64 (rtF l [] 0).2.2]) ∧ Below w.heap.size w w' := by
  obtain ⟨i0, hi, hz0, hz1, hz2⟩ := info_parts info5
  go_enter Tryd.func88, Tryd.ntmps88
  go_wp2_with fail
  refine wp_scope_jumps 0 (JRt l w) (fun _ _ => 0) rfl ?_ ?_
  · go_wp2_with fail
    go_loopw [5, 6, 7] (fun v e i wr => ∃ (k : Nat) (acc : List UInt8), k ≤ l.length ∧ e = .int .i64 10 ∧ i = .int .i64 (k : Int) ∧ acc.length ≤ k ∧ rtF (l.drop k) acc k = rtF l [] 0 ∧ wr.ownsRow w.heap.size 5 1 v acc.length (acc.map bc) ∧ Below w.heap.size w wr) (fun _ _ i _ => l.length - (intOf i).toNat)
    case atStart => exact ⟨0, [], by omega, rfl, rfl, by simp, rfl, World.ownsRow_nil _ _ _ _, Below.refl _ _⟩
    case round =>
      obtain ⟨k, acc, hk, rfl, rfl, hacc, hF, hown, hbr⟩ := hrel
      have hsz := hbr.size
      by_cases hlt : k < l.length
      · have hcell : wr.cell? ⟨b, off + k, none⟩ = some (bc l[k]) := (hbr.cell (p := ⟨b, off + k, none⟩) hbw).trans (hc k hlt)
        have hki : (k : Int) < (l.length : Int) := by omega
        by_cases hl1 : k + 1 < l.length
        · have hcell1 : wr.cell? ⟨b, off + (k + 1), none⟩ = some (bc l[k + 1]) := (hbr.cell (p := ⟨b, off + (k + 1), none⟩) hbw).trans (hc (k + 1) hl1)
          rw [drop2 l k hl1, rtF_cons2] at hF
          have HD1 : Hid (l[k + 1] :: l.drop (k + 2) = l.drop (k + 1)) := (List.drop_eq_getElem_cons hl1).symm
          generalize l[k] = x at *
          generalize l[k + 1] = y at *
          unfold bc at hcell hcell1
          have hki1 : (k : Int) + 1 < (l.length : Int) := by omega
          clear hc
          by_cases hx0 : x.toNat = 0
          · rw [if_pos hx0] at hF
            have g0 : ((x.toNat : Int) == 0) = true := by simp [hx0]
            have g1 : ((x.toNat : Int) != 0) = false := by simp [hx0]
            have HX : Hid (bc x = .int .u8 0) := by unfold Hid bc; rw [hx0]; rfl
            clear hx0
            by_cases hy : y.toNat = 255
            · rw [if_pos hy] at hF
              have HF : Hid _ := hF
              have g2 : ((y.toNat : Int) == 255) = true := by simp [hy]
              clear hy hF
              go_wp2_with (at_builtin; refine wpList_append_own _ rfl _ _ 28 rfl w.heap.size 5 i0 (.int .u8 0) 1 1 Tryd.underlying28 hi hz0 hz1 hz2 rfl (by decide) _ _ _ rfl (hown.alloc _) ⟨wr.heap.size, 0, none⟩ 1 1 [.int .u8 0] rfl rfl news1 one1 (len_ok (by omega)).1 (len_ok (by omega)).2 (al_ok hsz) ?_)
              intro v' w1 hown' hgrow _
              have HO2 : Hid (w1.ownsRow w.heap.size 5 1 v' (acc ++ [x]).length ((acc ++ [x]).map bc)) := by
                rw [List.map_append, List.length_append]
                simp only [List.map_cons, List.map_nil]
                rw [HX.out]
                exact hown'
              have HB2 : Hid (Below w.heap.size w w1) := (hbr.alloc hbr.size _).grown hgrow (al_ok hsz) (own_block hown)
              clear hown hown' hgrow hbr hsz hcell hcell1
              go_wp2_with fail
              go_roundw
              case rel => exact ⟨k + 2, acc ++ [x], by omega, rfl, by go_num, by simp; omega, HF.out, HO2.out, HB2.out⟩
              case measure => simp [intOf]; omega
            · rw [if_neg hy] at hF
              have g2 : ((y.toNat : Int) == 255) = false := by simp; omega
              clear hy
              by_cases hy1 : y.toNat = 1
              · rw [if_pos hy1] at hF
                have HF : Hid _ := hF.symm
                have g3 : ((y.toNat : Int) == 1) = true := by simp [hy1]
                have hcv := reads_text (reads_own hown)
                have HB : Hid (Below w.heap.size w wr) := hbr
                clear hy1 hF hown hbr
                go_wp2_with fail
                rw [jump_ret]
                go_ret3
                exact ⟨by rw [HF.out]; rfl, HB.out⟩
              · rw [if_neg hy1] at hF
                have HF : Hid _ := hF.symm
                have g3 : ((y.toNat : Int) == 1) = false := by simp; omega
                have HB : Hid (Below w.heap.size w wr) := hbr
                clear hy1 hF hown hbr
                go_wp2_with fail
                go_step3
                exact And.intro (a := 0 = 0) rfl (JRt_of HB.out HF.out)
          · rw [if_neg hx0, HD1.out] at hF
            have HF : Hid _ := hF
            have g0 : ((x.toNat : Int) == 0) = false := by simp; omega
            have g1 : ((x.toNat : Int) != 0) = true := by simp; omega
            clear hx0 hF
            go_wp2_with (at_builtin; refine wpList_append_own _ rfl _ _ 28 rfl w.heap.size 5 i0 (.int .u8 0) 1 1 Tryd.underlying28 hi hz0 hz1 hz2 rfl (by decide) _ _ _ rfl (hown.alloc _) ⟨wr.heap.size, 0, none⟩ 1 1 [.int .u8 (x.toNat : Int)] rfl rfl news1 one1 (len_ok (by omega)).1 (len_ok (by omega)).2 (al_ok hsz) ?_)
            intro v' w1 hown' hgrow _
            have HO2 : Hid (w1.ownsRow w.heap.size 5 1 v' (acc ++ [x]).length ((acc ++ [x]).map bc)) := by
              rw [List.map_append, List.length_append]
              exact hown'
            have HB2 : Hid (Below w.heap.size w w1) := (hbr.alloc hbr.size _).grown hgrow (al_ok hsz) (own_block hown)
            clear hown hown' hgrow hbr hsz hcell hcell1
            go_wp2_with fail
            go_roundw
            case rel => exact ⟨k + 1, acc ++ [x], by omega, rfl, by go_num, by simp; omega, HF.out, HO2.out, HB2.out⟩
            case measure => simp [intOf]; omega
        · have hl2 : k + 1 = l.length := by omega
          rw [drop1 l k hl2, rtF_one] at hF
          have HF : Hid _ := hF.symm
          have HDN : Hid (l.drop (k + 1) = []) := List.drop_eq_nil_of_le (by omega)
          generalize l[k] = x at *
          unfold bc at hcell
          clear hc hF
          have g5 : (k : Int) + 1 = (l.length : Int) := by omega
          by_cases hx0 : x.toNat = 0
          · have g0 : ((x.toNat : Int) == 0) = true := by simp [hx0]
            have g1 : ((x.toNat : Int) != 0) = false := by simp [hx0]
            have HB : Hid (Below w.heap.size w wr) := hbr
            clear hx0 hown hbr
            go_wp2_with fail
            go_step3
            exact And.intro (a := 0 = 0) rfl (JRt_of HB.out HF.out)
          · have g0 : ((x.toNat : Int) == 0) = false := by simp; omega
            have g1 : ((x.toNat : Int) != 0) = true := by simp; omega
            have HE : Hid (k + 1 = l.length) := hl2
            clear hx0 g5 hl2 hl1
            go_wp2_with (at_builtin; refine wpList_append_own _ rfl _ _ 28 rfl w.heap.size 5 i0 (.int .u8 0) 1 1 Tryd.underlying28 hi hz0 hz1 hz2 rfl (by decide) _ _ _ rfl (hown.alloc _) ⟨wr.heap.size, 0, none⟩ 1 1 [.int .u8 (x.toNat : Int)] rfl rfl news1 one1 (len_ok (by omega)).1 (len_ok (by omega)).2 (al_ok hsz) ?_)
            intro v' w1 hown' hgrow _
            have HO2 : Hid (w1.ownsRow w.heap.size 5 1 v' (acc ++ [x]).length ((acc ++ [x]).map bc)) := by
              rw [List.map_append, List.length_append]
              exact hown'
            have HB2 : Hid (Below w.heap.size w w1) := (hbr.alloc hbr.size _).grown hgrow (al_ok hsz) (own_block hown)
            clear hown hown' hgrow hbr hsz hcell
            go_wp2_with fail
            go_roundw
            case rel => exact ⟨k + 1, acc ++ [x], by omega, rfl, by go_num, by simp; omega, by rw [HDN.out, HF.out]; rfl, HO2.out, HB2.out⟩
            case measure => simp [intOf]; omega
      · have hke : k = l.length := by omega
        subst hke
        rw [List.drop_length] at hF
        have HF : Hid (rtF l [] 0 = ([], 0, 10)) := by unfold Hid; rw [← hF]; rfl
        have HB : Hid (Below w.heap.size w wr) := hbr
        clear hc hF hown hbr
        go_wp2_with fail
        go_step3
        go_wp2_with fail
        rw [jump_ret]
        go_ret3
        exact ⟨by rw [HF.out]; rfl, HB.out⟩
  · rintro a' w' ⟨hb, E, u0, u1, u2, u3, u4, u5, u7, u8, u9, u10, u11, u12, u13, u14, u15, u16, u17, u18, u19, u20, u21, u22, u23, u24, u25, u26, u27, u28, u29, u30, u31, u32, u33, u34, u35, u36, u37, u38, u39, u40, u41, u42, u43, u44, u45, u46, u47, rfl, e1⟩
    have E1 : Hid _ := e1
    have HB : Hid _ := hb
    clear e1 hb
    go_wp2_with fail
    rw [jump_ret]
    go_ret3
    exact ⟨by rw [E1.out]; rfl, HB.out⟩
set_option maxRecDepth 100000 in
set_option maxHeartbeats 1000000 in
theorem readText_none (a : Option Addr) (cap : Nat) (w : World) :
    Calls Tryd.prog 88 #[.slice a 0 cap] w fun e w' => e = .returned (.tuple #[.string ⟨#[]⟩, .int .i64 0, .int .i64 10]) ∧ Below w.heap.size w w' := by
  go_enter Tryd.func88, Tryd.ntmps88
  go_wp2_with fail
  go_step3
  go_wp2_with fail
  go_loop [6, 7] (fun e i => e = .int .i64 10 ∧ i = .int .i64 0) (fun _ _ => 0)
  case atStart => exact ⟨rfl, rfl⟩
  case round =>
    obtain ⟨rfl, rfl⟩ := hrel
    go_wp2_with fail
    go_step3
    go_wp2_with fail
    (try rw [Exit.noGoto_ret])
    go_ret3
    exact ⟨rfl, Below.refl _ _⟩
theorem readText_any (v : Value) (l : List UInt8) (hl : l.length ≤ 10000) (w : World) (h : Reads w v l) :
    Calls Tryd.prog 88 #[v] w fun e w' => e = .returned (.tuple #[.string ⟨(rtF l [] 0).1.toArray⟩, .int .i64 (rtF l [] 0).2.1, .int .i64 (rtF l [] 0).2.2]) ∧ Below w.heap.size w w' := by
  rcases h with ⟨rfl, a, cap, rfl, _⟩ | ⟨b, off, cap, rfl, h2, h3, h4, h5, h6⟩
  · exact readText_none a cap w
  · exact readText_some b off cap l h2 hl w h5 h6
end Go.Proofs.YtahigmjpeicemaaDoor

/- Plain arithmetic of numbers of 128 binary digits, told by their upper half (with sign) and lower half: no program in sight. -/
namespace Go.Proofs.YtahigmjpeicemaaDoor
open Go.RowKit

/-- The lower half of a number, modulo 2^128. -/
def lo (x : Int) : Int := x % 18446744073709551616
/-- The upper half of a number, modulo 2^128, with its sign. -/
def hi (x : Int) : Int := (x / 18446744073709551616 + 9223372036854775808) % 18446744073709551616 - 9223372036854775808

theorem lo_def (x : Int) : lo x = x % 18446744073709551616 := rfl
theorem hi_def (x : Int) : hi x = (x / 18446744073709551616 + 9223372036854775808) % 18446744073709551616 - 9223372036854775808 := rfl
theorem lo_bd (x : Int) : 0 ≤ lo x ∧ lo x < 18446744073709551616 := by unfold lo; omega
theorem hi_bd (x : Int) : -9223372036854775808 ≤ hi x ∧ hi x < 9223372036854775808 := by unfold hi; omega

/-- Each pair of halves is one number's that can be told. -/
theorem of_halves (h l : Int) (h1 : -9223372036854775808 ≤ h) (h2 : h ≤ 9223372036854775807) (l1 : 0 ≤ l) (l2 : l ≤ 18446744073709551615) :
    ∃ x : Int, -170141183460469231731687303715884105728 ≤ x ∧ x < 170141183460469231731687303715884105728 ∧ h = hi x ∧ l = lo x := by
  refine ⟨h * 18446744073709551616 + l, by omega, by omega, ?_, ?_⟩
  · unfold hi; omega
  · unfold lo; omega
theorem halves_back (x : Int) (h1 : -170141183460469231731687303715884105728 ≤ x) (h2 : x < 170141183460469231731687303715884105728) : hi x * 18446744073709551616 + lo x = x := by
  unfold hi lo; omega
theorem hi_small (v : Int) (h1 : -9223372036854775808 ≤ v) (h2 : v ≤ 9223372036854775807) : v / 9223372036854775808 = hi v := by
  unfold hi; omega
theorem add_lo (x y : Int) : (lo x + lo y) % 18446744073709551616 = lo (x + y) := by unfold lo; omega
theorem add_hi (x y : Int) : hi x + hi y + (lo x + lo y) / 18446744073709551616 = x / 18446744073709551616 + y / 18446744073709551616 + (lo x + lo y) / 18446744073709551616 + 18446744073709551616 * ((hi x - x / 18446744073709551616) / 18446744073709551616 + (hi y - y / 18446744073709551616) / 18446744073709551616) := by
  unfold hi lo; omega
/-- Equal halves: equal modulo 2^128. -/
theorem halves_inj (x y : Int) (h : hi x = hi y) (l : lo x = lo y) : (x - y) % 340282366920938463463374607431768211456 = 0 := by
  unfold hi at h; unfold lo at l; omega
theorem halves_mod (x y : Int) (h : (x - y) % 340282366920938463463374607431768211456 = 0) : hi x = hi y ∧ lo x = lo y := by
  unfold hi lo; omega
/-- The sum's upper half, as two carries make it. -/
theorem add_hi' (x y : Int) :
    ((hi x % 18446744073709551616 + hi y % 18446744073709551616 + (lo x + lo y) / 18446744073709551616) % 18446744073709551616 + 9223372036854775808) % 18446744073709551616 - 9223372036854775808 = hi (x + y) := by
  unfold hi lo; omega
/-- -1, 0, 1. -/
def sgn (x y : Int) : Int := if x < y then -1 else if x = y then 0 else 1
/-- A sum of a list. -/
def sumI : List Int → Int
  | [] => 0
  | a :: l => a + sumI l
theorem sumI_snoc (l : List Int) (a : Int) : sumI (l ++ [a]) = sumI l + a := by
  induction l with
  | nil => simp [sumI]
  | cons b l ih => simp [sumI, ih]; omega

theorem ones_xor (v : BitVec 64) : (BitVec.ofInt 64 (-1) ^^^ v).toNat = 18446744073709551615 - v.toNat := by
  have e : BitVec.ofInt 64 (-1) = BitVec.allOnes 64 := by decide
  rw [e, BitVec.allOnes_xor, BitVec.toNat_not]
theorem bits_not_i64 (h : Int) (h1 : -9223372036854775808 ≤ h) (h2 : h < 9223372036854775808) : bits .xor .i64 (-1) h = -1 - h := by
  show IntKind.i64.wrap ((BitVec.ofInt 64 (-1) ^^^ BitVec.ofInt 64 h).toNat : Int) = _
  rw [ones_xor, IntKind.wrap_i64]
  have e : (BitVec.ofInt 64 h).toNat = (h % 18446744073709551616).toNat := by rw [BitVec.toNat_ofInt]; rfl
  rw [e]
  omega
theorem bits_not_u64 (h : Int) (h1 : 0 ≤ h) (h2 : h < 18446744073709551616) : bits .xor .u64 IntKind.u64.max h = 18446744073709551615 - h := by
  show IntKind.u64.wrap ((BitVec.ofInt 64 IntKind.u64.max ^^^ BitVec.ofInt 64 h).toNat : Int) = _
  have e0 : BitVec.ofInt 64 IntKind.u64.max = BitVec.ofInt 64 (-1) := by decide
  rw [e0, ones_xor, IntKind.wrap_u64]
  have e : (BitVec.ofInt 64 h).toNat = (h % 18446744073709551616).toNat := by rw [BitVec.toNat_ofInt]; rfl
  rw [e]
  omega
end Go.Proofs.YtahigmjpeicemaaDoor

/- The contracts of wide's small functions (Of, carried, Add, Minus) over the translated program: each returns the numbers that plain arithmetic names, and nothing that was there is changed. -/
namespace Go.Proofs.YtahigmjpeicemaaDoor
open Go.RowKit

theorem take_snocI (l : List Int) (k : Nat) (h : k < l.length) : l.take (k + 1) = l.take k ++ [l.getD k 0] := by
  rw [List.take_succ_eq_append_getElem h]; simp [List.getD, h]
theorem sumI_take (l : List Int) (k : Nat) (h : k < l.length) : sumI (l.take (k + 1)) = sumI (l.take k) + l.getD k 0 := by
  rw [take_snocI l k h, sumI_snoc]
theorem sumI_bd (l : List Int) (hl : ∀ x ∈ l, 0 ≤ x ∧ x < 18446744073709551616) : 0 ≤ sumI l ∧ sumI l ≤ 18446744073709551615 * l.length := by
  induction l with
  | nil => simp [sumI]
  | cons a l ih =>
    have := ih (fun x hx => hl x (List.mem_cons_of_mem _ hx))
    have h2 := hl a (List.mem_cons_self ..)
    simp [sumI]; omega

theorem getD_mem (l : List Int) (k : Nat) (h : k < l.length) : l.getD k 0 ∈ l := by
  have e : l.getD k 0 = l[k] := by simp [List.getD, h]
  rw [e]; exact List.getElem_mem h

end Go.Proofs.YtahigmjpeicemaaDoor

/- The contract of word.Write: numbers as eight bytes each, the greatest first. -/
namespace Go.Proofs.YtahigmjpeicemaaDoor
open Go.RowKit

/-- Byte i of eight, the greatest first. -/
def byteOf (x : Int) (i : Nat) : Int := x / 2 ^ (8 * (7 - i)) % 256
/-- The first k bytes of all numbers' bytes. -/
def bytesTo (zs : List Int) (k : Nat) : List Int := (List.range k).map fun j => byteOf (zs.getD (j / 8) 0) (j % 8)
theorem bytesTo_succ (zs : List Int) (k : Nat) : bytesTo zs (k + 1) = bytesTo zs k ++ [byteOf (zs.getD (k / 8) 0) (k % 8)] := by
  simp [bytesTo, List.range_succ]
theorem bytesTo_len (zs : List Int) (k : Nat) : (bytesTo zs k).length = k := by simp [bytesTo]
set_option maxRecDepth 100000 in
set_option maxHeartbeats 2000000 in
theorem wordWrite_any (b n : Nat) (zs : List Int) (hn : zs.length = n) (hn2 : n ≤ 1000) (hz : ∀ x ∈ zs, 0 ≤ x ∧ x < 18446744073709551616) (w : World) (hbw : b < w.heap.size)
    (hc : ∀ i, i < zs.length → w.cell? ⟨b, i, none⟩ = some (.int .u64 (zs.getD i 0)))
    (hmk : ∀ w, (Instr.makeSlice 28 (.int .i64 0) (.int .i64 (8 * (n : Int)))).run Tryd.prog w = .ok (.slice (some ⟨w.heap.size, 0, none⟩) 0 (8 * n)) (w.alloc (.cells (Array.replicate (8 * n) (.int .u8 0)) 5))) :
    Calls Tryd.prog 56 #[.slice (some ⟨b, 0, none⟩) n n] w fun e w' => ∃ v, e = .returned v ∧ w'.ownsRow w.heap.size 5 1 v (8 * n) ((bytesTo zs (8 * n)).map (Value.int .u8)) ∧ Below w.heap.size w w' := by
  obtain ⟨i0, hi, hz0, hz1, hz2⟩ := info_parts info5
  go_enter Tryd.func56, Tryd.ntmps56
  go_wp2_with fail
  have hown0 : (w.alloc (.cells (Array.replicate (8 * n) (.int .u8 0)) 5)).ownsRow w.heap.size 5 1 (.slice (some ⟨w.heap.size, 0, none⟩) 0 (8 * n)) 0 [] := by
    refine ⟨rfl, Or.inr ⟨w.heap.size, 8 * n, Array.replicate (8 * n) (.int .u8 0), rfl, Nat.le_refl _, ?_, Nat.zero_le _, ?_, ?_, ?_⟩⟩
    · show (w.heap.push _)[w.heap.size]? = _
      simp
    · unfold maxLen; omega
    · simp
    · simp
  clear hmk
  go_loopw [3, 13] (fun v i wr => ∃ k : Nat, k ≤ n ∧ i = .int .i64 k ∧ wr.ownsRow w.heap.size 5 1 v (8 * k) ((bytesTo zs (8 * k)).map (Value.int .u8)) ∧ Below w.heap.size w wr) (fun _ i _ => n - (intOf i).toNat)
  case atStart => exact ⟨0, Nat.zero_le _, rfl, hown0, (Below.refl _ _).alloc (by simp) _⟩
  case round =>
    obtain ⟨k, hk, rfl, hown, hbr⟩ := hrel
    clear hown0
    by_cases hlt : k < n
    · have hcell : wr.cell? ⟨b, k, none⟩ = some (.int .u64 (zs.getD k 0)) := (hbr.cell (p := ⟨b, k, none⟩) hbw).trans (hc k (by omega))
      have hzk := hz _ (getD_mem zs k (by omega))
      have HO : Hid _ := hown
      have HB : Hid _ := hbr
      have HE : Hid (zs.getD k 0 = zs.getD k 0) := rfl
      have hsz := hbr.size
      clear hown hbr hc
      generalize hx : zs.getD k 0 = x at *
      have HX : Hid (zs.getD k 0 = x) := hx
      clear hx
      go_wp2_with fail
      go_loopw [3, 17] (fun v i wq => ∃ m : Nat, m ≤ 8 ∧ i = .int .i64 m ∧ wq.ownsRow w.heap.size 5 1 v (8 * k + m) ((bytesTo zs (8 * k + m)).map (Value.int .u8)) ∧ Below w.heap.size w wq) (fun _ i _ => 8 - (intOf i).toNat)
      case atStart => exact ⟨0, by omega, rfl, HO.out, HB.out⟩
      case round =>
        obtain ⟨m, hm, rfl, hown, hbr⟩ := hrel
        clear HO HB
        by_cases hlm : m < 8
        · have hsz2 := hbr.size
          go_wp2_with (at_builtin; refine wpList_append_own _ rfl _ _ 28 rfl w.heap.size 5 i0 (.int .u8 0) 1 1 Tryd.underlying28 hi hz0 hz1 hz2 rfl (by decide) _ _ _ rfl (hown.alloc _) ⟨wr.heap.size, 0, none⟩ 1 1 [.int .u8 (x / 2 ^ (8 * (7 - m)) % 256)] rfl rfl ?c1 ?c2 ?c3 ?c4 ?c5 ?_)
          case c1 =>
            intro j u hj
            match j, hj with
            | 0, hj => simp at hj; subst hj; simp [Addr.add]
          case c2 => intro u hu; simp at hu; subst hu; rfl
          case c3 => unfold maxLen; omega
          case c4 => omega
          case c5 => simp; omega
          intro v' w1 hown' hgrow _
          have HO2 : Hid (w1.ownsRow w.heap.size 5 1 v' (8 * k + (m + 1)) ((bytesTo zs (8 * k + (m + 1))).map (Value.int .u8))) := by
            have e : bytesTo zs (8 * k + (m + 1)) = bytesTo zs (8 * k + m) ++ [byteOf x m] := by
              have := bytesTo_succ zs (8 * k + m)
              have e1 : (8 * k + m) / 8 = k := by omega
              have e2 : (8 * k + m) % 8 = m := by omega
              rw [e1, e2, HX.out] at this
              exact this
            rw [e, List.map_append]
            exact hown'
          have HB2 : Hid (Below w.heap.size w w1) := (hbr.alloc hbr.size _).grown hgrow (by simp; omega) (own_block hown)
          clear hown hown' hgrow hbr
          go_wp2_with fail
          go_roundw
          case rel => exact ⟨m + 1, by omega, by go_num, HO2.out, HB2.out⟩
          case measure => simp [intOf]; omega
        · have hm8 : m = 8 := by omega
          subst hm8
          have HO2 : Hid _ := hown
          have HB2 : Hid _ := hbr
          clear hown hbr
          go_wp2_with fail
          go_roundw
          case rel => exact ⟨k + 1, by omega, by go_num, HO2.out, HB2.out⟩
          case measure => simp [intOf]; omega
    · have hke : k = n := by omega
      subst hke
      have HO2 : Hid _ := hown
      have HB2 : Hid _ := hbr
      clear hown hbr
      go_wp2_with fail
      go_ret
      exact ⟨_, rfl, HO2.out, HB2.out⟩
end Go.Proofs.YtahigmjpeicemaaDoor
