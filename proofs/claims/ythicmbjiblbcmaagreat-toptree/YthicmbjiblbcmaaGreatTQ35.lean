/- Pl W1, joined. -/
import Derived.WalkKit
import Derived.Laws.Bits64
import Derived.Test.YthicmbjiblbcmaaGreatRows
import Derived.WalkSpells
import Derived.WalkLawsBesides
import Derived.Laws.Externs
import Derived.Lib.Mul64
import Derived.Laws.Bits64b
import Derived.Deep.RegionHeld3
namespace Go.Proofs.YthicmbjiblbcmaaGreat
open Go.RowKit
/-- The lower half of a number, modulo 2^128. -/
def lo (x : Int) : Int := x % 18446744073709551616
/-- The upper half of a number, modulo 2^128, with its sign. -/
def hi (x : Int) : Int := (x / 18446744073709551616 + 9223372036854775808) % 18446744073709551616 - 9223372036854775808

theorem lo_bd (x : Int) : 0 ≤ lo x ∧ lo x < 18446744073709551616 := by unfold lo; omega
theorem hi_bd (x : Int) : -9223372036854775808 ≤ hi x ∧ hi x < 9223372036854775808 := by unfold hi; omega

/-- Each pair of halves is one number's that can be told. -/
theorem of_halves (h l : Int) (h1 : -9223372036854775808 ≤ h) (h2 : h ≤ 9223372036854775807) (l1 : 0 ≤ l) (l2 : l ≤ 18446744073709551615) :
    ∃ x : Int, -170141183460469231731687303715884105728 ≤ x ∧ x < 170141183460469231731687303715884105728 ∧ h = hi x ∧ l = lo x := by
  refine ⟨h * 18446744073709551616 + l, by omega, by omega, ?_, ?_⟩
  · unfold hi; omega
  · unfold lo; omega
theorem add_lo (x y : Int) : (lo x + lo y) % 18446744073709551616 = lo (x + y) := by unfold lo; omega
/-- The sum's upper half, as two carries make it. -/
theorem add_hi' (x y : Int) :
    ((hi x % 18446744073709551616 + hi y % 18446744073709551616 + (lo x + lo y) / 18446744073709551616) % 18446744073709551616 + 9223372036854775808) % 18446744073709551616 - 9223372036854775808 = hi (x + y) := by
  unfold hi lo; omega
/-- A sum of a list. -/
def sumI : List Int → Int
  | [] => 0
  | a :: l => a + sumI l
theorem sumI_snoc (l : List Int) (a : Int) : sumI (l ++ [a]) = sumI l + a := by
  induction l with
  | nil => simp [sumI]
  | cons b l ih => simp [sumI, ih]; omega

end Go.Proofs.YthicmbjiblbcmaaGreat

/- The contracts of wide's small functions (Of, carried, Add, Minus) over the translated program: each returns the numbers that plain arithmetic names, and nothing that was there is changed. -/
namespace Go.Proofs.YthicmbjiblbcmaaGreat
open Go.RowKit

theorem add64_0 (x y : Int) (hx : 0 ≤ x) (hy : 0 ≤ y) (w : World) : (callFunc 75 #[.int .u64 x, .int .u64 y, .int .u64 0]).run Tryz.prog w =
    .ok (.value (.tuple #[.int .u64 ((x + y) % 18446744073709551616), .int .u64 ((x + y) / 18446744073709551616)])) w := by
  rw [run_callFunc_extern Tryz.func75 (by kernel_rfl) (by kernel_rfl) (by kernel_rfl) (e := add64Entry) (by kernel_rfl), run_add64 x y 0 hx hy (by omega) (by omega)]
  simp

theorem take_snocI (l : List Int) (k : Nat) (h : k < l.length) : l.take (k + 1) = l.take k ++ [l.getD k 0] := by
  rw [List.take_succ_eq_append_getElem h]; simp [List.getD, h]
theorem sumI_take (l : List Int) (k : Nat) (h : k < l.length) : sumI (l.take (k + 1)) = sumI (l.take k) + l.getD k 0 := by
  rw [take_snocI l k h, sumI_snoc]
theorem sumI_bd (l : List Int) (hl : ∀ x ∈ l, 0 ≤ x ∧ x < 18446744073709551616) : 0 ≤ sumI l ∧ sumI l ≤ 18446744073709551615 * l.length := by
  induction l with
  | nil => simp [sumI]
  | cons a l ih =>
    have := ih (fun x hx => hl x (List.mem_cons_of_mem _ hx))
    have h2 := hl a (List.mem_cons_self ..)
    simp [sumI]; omega

theorem getD_mem (l : List Int) (k : Nat) (h : k < l.length) : l.getD k 0 ∈ l := by
  have e : l.getD k 0 = l[k] := by simp [List.getD, h]
  rw [e]; exact List.getElem_mem h

set_option maxHeartbeats 400000 in
theorem carried_any (b : Nat) (zs : List Int) (hn : zs.length ≤ 1000) (hz : ∀ x ∈ zs, 0 ≤ x ∧ x < 18446744073709551616) (w : World)
    (hc : ∀ i, i < zs.length → w.cell? ⟨b, i, none⟩ = some (.int .u64 (zs.getD i 0))) :
    Calls Tryz.prog 76 #[.slice (some ⟨b, 0, none⟩) zs.length zs.length] w fun e w' => e = .returned (.tuple #[.int .u64 (sumI zs % 18446744073709551616), .int .u64 (sumI zs / 18446744073709551616)]) ∧ w' = w := by
  go_enter Tryz.func76, Tryz.ntmps76
  go_wp2
  go_loop [2, 3, 9] (fun s c i => ∃ k : Nat, k ≤ zs.length ∧ i = .int .i64 k ∧ s = .int .u64 (sumI (zs.take k) % 18446744073709551616) ∧ c = .int .u64 (sumI (zs.take k) / 18446744073709551616)) (fun _ _ i => zs.length - (intOf i).toNat)
  case atStart => exact ⟨0, Nat.zero_le _, rfl, rfl, rfl⟩
  case round =>
    obtain ⟨k, hk, rfl, rfl, rfl⟩ := hrel
    by_cases hlt : k < zs.length
    · have hcell := hc k hlt
      have hb := sumI_bd (zs.take k) (fun x hx => hz x (List.mem_of_mem_take hx))
      have hl : (zs.take k).length ≤ k := List.length_take_le _ _
      have hm : 0 ≤ zs.getD k 0 ∧ zs.getD k 0 < 18446744073709551616 := hz _ (getD_mem zs k hlt)
      have HS : Hid (sumI (zs.take (k + 1)) = sumI (zs.take k) + zs.getD k 0) := sumI_take zs k hlt
      clear hc
      generalize zs.getD k 0 = z at *
      generalize sumI (zs.take k) = s at *
      have hs0 : 0 ≤ s % 18446744073709551616 := by omega
      go_wp2_with (simp only [add64_0 _ _ hs0 hm.1])
      go_round
      case rel => exact ⟨k + 1, by omega, by go_num, by rw [HS.out], by rw [HS.out]; exact congrArg (Value.int .u64) (by omega)⟩
      case measure => simp [intOf]; omega
    · have hke : k = zs.length := by omega
      go_wp2
      go_ret2
      exact ⟨rfl, rfl⟩


theorem carried2 (b : Nat) (x y : Int) (hx : 0 ≤ x ∧ x < 18446744073709551616) (hy : 0 ≤ y ∧ y < 18446744073709551616) (w : World) (h0 : w.cell? ⟨b, 0, none⟩ = some (.int .u64 x)) (h1 : w.cell? ⟨b, 1, none⟩ = some (.int .u64 y)) :
    Calls Tryz.prog 76 #[.slice (some ⟨b, 0, none⟩) 2 2] w fun e w' => e = .returned (.tuple #[.int .u64 ((x + y) % 18446744073709551616), .int .u64 ((x + y) / 18446744073709551616)]) ∧ w' = w := by
  have h := carried_any b [x, y] (by simp) (by intro z hz; simp at hz; rcases hz with rfl | rfl <;> assumption) w (by
    intro i hi
    match i, hi with
    | 0, _ => simpa using h0
    | 1, _ => simpa using h1)
  have e : sumI [x, y] = x + y := by simp [sumI]
  rw [e] at h
  exact h
theorem carried3 (b : Nat) (x y z : Int) (hx : 0 ≤ x ∧ x < 18446744073709551616) (hy : 0 ≤ y ∧ y < 18446744073709551616) (hz : 0 ≤ z ∧ z < 18446744073709551616) (w : World) (h0 : w.cell? ⟨b, 0, none⟩ = some (.int .u64 x)) (h1 : w.cell? ⟨b, 1, none⟩ = some (.int .u64 y)) (h2 : w.cell? ⟨b, 2, none⟩ = some (.int .u64 z)) :
    Calls Tryz.prog 76 #[.slice (some ⟨b, 0, none⟩) 3 3] w fun e w' => e = .returned (.tuple #[.int .u64 ((x + y + z) % 18446744073709551616), .int .u64 ((x + y + z) / 18446744073709551616)]) ∧ w' = w := by
  have h := carried_any b [x, y, z] (by simp) (by intro u hu; simp at hu; rcases hu with rfl | rfl | rfl <;> assumption) w (by
    intro i hi
    match i, hi with
    | 0, _ => simpa using h0
    | 1, _ => simpa using h1
    | 2, _ => simpa using h2)
  have e : sumI [x, y, z] = x + y + z := by simp [sumI]; omega
  rw [e] at h
  exact h

set_option maxHeartbeats 400000 in
theorem add_exact (x y : Int) (w : World) :
    Calls Tryz.prog 47 #[.agg #[.int .i64 (hi x), .int .u64 (lo x)], .agg #[.int .i64 (hi y), .int .u64 (lo y)]] w fun e w' => e = .returned (.agg #[.int .i64 (hi (x + y)), .int .u64 (lo (x + y))]) ∧ ∃ c1 c2 c3 c4 c5, w' = ((((w.alloc (.cells c1 52)).alloc (.cells c2 52)).alloc (.cells c3 52)).alloc (.cells c4 50)).alloc (.cells c5 50) := by
  have lx := lo_bd x; have ly := lo_bd y; have hx := hi_bd x; have hy := hi_bd y
  have EL : Hid ((lo x + lo y) % 18446744073709551616 = lo (x + y)) := add_lo x y
  have EH : Hid (((hi x % 18446744073709551616 + hi y % 18446744073709551616 + (lo x + lo y) / 18446744073709551616) % 18446744073709551616 + 9223372036854775808) % 18446744073709551616 - 9223372036854775808 = hi (x + y)) := add_hi' x y
  go_enter Tryz.func47, Tryz.ntmps47
  go_wp2_with fail
  refine (carried2 _ _ _ lx ly _ (by simp [go_sem]) (by simp [go_sem])).mono ?_
  rintro e w' ⟨rfl, rfl⟩
  go_wp2_with fail
  simp only [IntKind.wrap_u64]
  refine (carried3 _ (hi x % 18446744073709551616) (hi y % 18446744073709551616) ((lo x + lo y) / 18446744073709551616) (by omega) (by omega) (by omega) _ (by simp [go_sem]) (by simp [go_sem]) (by simp [go_sem])).mono ?_
  rintro e w' ⟨rfl, rfl⟩
  go_wp2_with fail
  refine bodyPost_ret (v := .agg #[.int .i64 (wrap64 ((hi x % 18446744073709551616 + hi y % 18446744073709551616 + (lo x + lo y) / 18446744073709551616) % 18446744073709551616)), .int .u64 ((lo x + lo y) % 18446744073709551616)]) (by simp [results, Tryz.results47, go_sem]) rfl ⟨?_, ?_⟩
  · unfold wrap64; rw [EL.out, EH.out]
  · exact ⟨_, _, _, _, _, rfl⟩

end Go.Proofs.YthicmbjiblbcmaaGreat
