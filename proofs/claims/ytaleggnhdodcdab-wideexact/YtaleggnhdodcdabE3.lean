/- The walk of WideExact, whatever the slice. -/
import Derived.Test.YtaleggnhdodcdabE2
namespace Go.Proofs.Ytaleggnhdodcdab
open Go.RowKit

set_option maxRecDepth 100000 in
set_option maxHeartbeats 4000000 in
theorem exact_none (ad : Option Addr) (cap : Nat) (w : World) :
    Calls Try.prog 5 #[.slice ad 0 cap] w fun e w' => e = .returned (.bool true) ∧ Below w.heap.size w w' := by
  go_enter Try.func5, Try.ntmps5
  go_wp2_with fail
  refine (of_exact 0 (by decide) (by decide) _).mono ?_
  rintro e w' ⟨rfl, cc1, rfl⟩
  go_wp2_with fail
  refine (of_exact 0 (by decide) (by decide) _).mono ?_
  rintro e w' ⟨rfl, cc2, rfl⟩
  go_wp2_with fail
  refine (of_exact 0 (by decide) (by decide) _).mono ?_
  rintro e w' ⟨rfl, cc3, rfl⟩
  go_wp2_with fail
  go_loopw [6] (fun i wr => ∃ k : Nat, k ≤ 0 ∧ i = .int .i64 k ∧ Sums (upL (([] : List Int).take k)) (dnL (([] : List Int).take k)) (upL (([] : List Int).take k) - dnL (([] : List Int).take k)) w wr) (fun _ _ => 0)
  case atStart =>
    refine ⟨0, by omega, rfl, ?_⟩
    have e1 : upL (([] : List Int).take 0) = 0 := rfl
    have e2 : dnL (([] : List Int).take 0) = 0 := rfl
    rw [e1, e2]
    refine ⟨?_, ?_, ?_, ?_, ?_, ?_, ?_, ?_, ?_, ?_, ?_, ?_, ?_, ?_⟩
    any_goals (simp [go_sem, World.cell?_alloc_past]; done)
    exact ((((((Below.refl _ _).alloc (by simp) _).alloc (by simp) _).alloc (by simp; omega) _).alloc (by simp; omega) _).alloc (by simp; omega) _).alloc (by simp; omega) _
  case round =>
    obtain ⟨k, hk, rfl, hS⟩ := hrel
    obtain rfl : k = 0 := by omega
    have hub : upL (([] : List Int).take 0) = 0 ∧ dnL (([] : List Int).take 0) = 0 := ⟨rfl, rfl⟩
    generalize upL (([] : List Int).take 0) = u at *
    generalize dnL (([] : List Int).take 0) = d at *
    have HS : Hid _ := hS
    have u1 : 0 ≤ u ∧ u ≤ 18446744073709551616000 := by omega
    have d1 : 0 ≤ d ∧ d ≤ 18446744073709551616000 := by omega
    clear hS hub hk
    have HSR : Hid (Sums u d (u - d) w wr) := HS.out
    have gu : decide (0 ≤ hi u) = true := by unfold hi; simp; omega
    have gd : decide (0 ≤ hi d) = true := by unfold hi; simp; omega
    have EA : Hid (u - d + d = u) := by unfold Hid; omega
    have EC : Hid (sgn (u - d) 0 = sgn u d) := by
      unfold Hid sgn
      by_cases h : u < d
      · rw [if_pos h, if_pos (by omega)]
      · by_cases h' : u = d
        · rw [if_neg h, if_pos h', if_neg (by omega), if_pos (by omega)]
        · rw [if_neg h, if_neg h', if_neg (by omega), if_neg (by omega)]
    clear HS
    go_wp2_with fail
    go_region_held3 (fun w' => w'.cell? ⟨w.heap.size + 1 + 1 + 1, 0, none⟩ = some (.int .i64 (hi u)) ∧ w'.cell? ⟨w.heap.size + 1 + 1 + 1, 1, none⟩ = some (.int .u64 (lo u)) ∧ w'.frozen? ⟨w.heap.size + 1 + 1 + 1, 0, none⟩ = false ∧ w'.frozen? ⟨w.heap.size + 1 + 1 + 1, 1, none⟩ = false ∧ w'.cell? ⟨w.heap.size + 1 + 1 + 1 + 1, 0, none⟩ = some (.int .i64 (hi d)) ∧ w'.cell? ⟨w.heap.size + 1 + 1 + 1 + 1, 1, none⟩ = some (.int .u64 (lo d)) ∧ w'.frozen? ⟨w.heap.size + 1 + 1 + 1 + 1, 0, none⟩ = false ∧ w'.frozen? ⟨w.heap.size + 1 + 1 + 1 + 1, 1, none⟩ = false ∧ w'.cell? ⟨w.heap.size + 1 + 1 + 1 + 1 + 1, 0, none⟩ = some (.int .i64 (hi (u - d))) ∧ w'.cell? ⟨w.heap.size + 1 + 1 + 1 + 1 + 1, 1, none⟩ = some (.int .u64 (lo (u - d))) ∧ w'.frozen? ⟨w.heap.size + 1 + 1 + 1 + 1 + 1, 0, none⟩ = false ∧ w'.frozen? ⟨w.heap.size + 1 + 1 + 1 + 1 + 1, 1, none⟩ = false ∧ w.heap.size + 1 + 1 + 1 + 1 + 1 < w'.heap.size ∧ Below w.heap.size w w') (first | exact Sums.below (u := u) (d := d) (a := u - d) (w := w) (by assumption) hb | exact Sums.drew HSR.out)
      (first
        | (go_at_call 8; refine (alive_any _).mono ?_; rintro e w' ⟨rfl, hb⟩)
        | (go_at_call 15; refine (of_any 0 (by decide) (by decide) _).mono ?_; rintro e w' ⟨rfl, hb⟩)
        | (go_at_call 14; refine (add_any (u - d) d _).mono ?_; rw [EA.out]; rintro e w' ⟨rfl, hb⟩)
        | (go_at_call_of 13 (Value.agg #[.int .i64 (hi 0), .int .u64 (lo 0)]); refine (cmp_any (u - d) 0 (by omega) (by omega) (by omega) (by omega) _).mono ?_; rw [EC.out]; rintro e w' ⟨rfl, hb⟩)
        | (go_at_call 13; refine (cmp_any u d (by omega) (by omega) (by omega) (by omega) _).mono ?_; rintro e w' ⟨rfl, hb⟩))
    have HBF : Hid (Below w.heap.size w w') := by
      first
        | exact (show Sums u d (u - d) w w' by assumption).2.2.2.2.2.2.2.2.2.2.2.2.2
        | exact (Sums.below (u := u) (d := d) (a := u - d) (w := w) (by assumption) hb).2.2.2.2.2.2.2.2.2.2.2.2.2
    go_wp2_with fail
    go_ret
    exact ⟨rfl, HBF.out⟩

set_option maxHeartbeats 400000 in
theorem exact_long (ad : Option Addr) (len cap : Nat) (hl : 2000 < len) (hm : len ≤ maxLen) (w : World) :
    Calls Try.prog 5 #[.slice ad len cap] w fun e w' => e = .returned (.bool true) ∧ Below w.heap.size w w' := by
  unfold maxLen at hm
  have hd2 : decide (2000 < (len : Int)) = true := by simp; omega
  go_enter Try.func5, Try.ntmps5
  go_wp2_with fail
  refine (alive_any _).mono ?_
  rintro e w1 ⟨rfl, hb⟩
  have HB : Hid _ := hb
  clear hb
  go_wp2_with fail
  go_ret
  exact ⟨rfl, HB.out⟩
theorem exactWalk (a : Option Addr) (len cap : Nat) (zs : List Int) (w : World) (h : IsRow .i64 w a len cap zs) :
    Calls Try.prog 5 #[.slice a len cap] w fun e w' => e = .returned (.bool true) ∧ Below w.heap.size w w' := by
  rcases Nat.eq_zero_or_pos len with h0 | h0
  · subst h0; exact exact_none a cap w
  · obtain ⟨b, off, rfl, hb, h1, h2, h3, h4⟩ := row_at h h0
    by_cases hl : len ≤ 2000
    · exact exact_some b off len cap zs h1 hl (fun x hx => bounds_i64 (h4 x hx)) w hb h3
    · exact exact_long _ len cap (by omega) h2 w
end Go.Proofs.Ytaleggnhdodcdab
