/- The contracts of cmp.Compare, slices.Compare and cmp.Or, as key.Less calls them. -/
import Derived.Test.YtbcdmammedabmaaK0
namespace Go.Proofs.Ytbcdmammedabmaa
open Go.RowKit

def cmpI (a b : Int) : Int := if a < b then -1 else if b < a then 1 else 0
def cmpS (s t : ByteArray) : Int := if Op.bytesLess s.toList t.toList = true then -1 else if s.toList = t.toList then 0 else 1
def cmpL : List ByteArray → List ByteArray → Int
  | [], [] => 0
  | [], _ :: _ => -1
  | _ :: _, [] => 1
  | x :: a, y :: b => if cmpS x y ≠ 0 then cmpS x y else cmpL a b
theorem nan64 (x : Int) (w : World) : Calls Try.prog 44 #[.int .i64 x] w fun e w' => e = .returned (.bool false) ∧ w' = w := by
  go_enter Try.func44, Try.ntmps44
  go_wp2_with fail
  go_ret
  exact ⟨by simp, rfl⟩
theorem nanI (x : Int) (w : World) : Calls Try.prog 45 #[.int .i64 x] w fun e w' => e = .returned (.bool false) ∧ w' = w := by
  go_enter Try.func45, Try.ntmps45
  go_wp2_with fail
  go_ret
  exact ⟨by simp, rfl⟩
theorem nanS (x : ByteArray) (w : World) : Calls Try.prog 46 #[.string x] w fun e w' => e = .returned (.bool false) ∧ w' = w := by
  go_enter Try.func46, Try.ntmps46
  go_wp2_with fail
  go_ret
  exact ⟨by simp, rfl⟩
theorem ret_int {k : IntKind} {a b : Int} (h : a = b) : Ending.returned (.int k a) = .returned (.int k b) := by rw [h]
set_option maxRecDepth 100000 in
set_option maxHeartbeats 1000000 in
theorem cmp64 (x y : Int) (w : World) : Calls Try.prog 37 #[.int .i64 x, .int .i64 y] w fun e w' => e = .returned (.int .i64 (cmpI x y)) ∧ w' = w := by
  go_enter Try.func37, Try.ntmps37
  go_wp2_with (first | (go_at_call 44; refine (nan64 _ _).mono ?_; rintro e w' ⟨rfl, rfl⟩))
  all_goals
    go_ret
    exact ⟨ret_int (by unfold cmpI; split <;> (try split) <;> omega), rfl⟩
set_option maxRecDepth 100000 in
set_option maxHeartbeats 1000000 in
theorem cmpInt (x y : Int) (w : World) : Calls Try.prog 38 #[.int .i64 x, .int .i64 y] w fun e w' => e = .returned (.int .i64 (cmpI x y)) ∧ w' = w := by
  go_enter Try.func38, Try.ntmps38
  go_wp2_with (first | (go_at_call 45; refine (nanI _ _).mono ?_; rintro e w' ⟨rfl, rfl⟩))
  all_goals
    go_ret
    exact ⟨ret_int (by unfold cmpI; split <;> (try split) <;> omega), rfl⟩
set_option maxRecDepth 100000 in
set_option maxHeartbeats 1000000 in
theorem cmpStr (x y : ByteArray) (w : World) : Calls Try.prog 43 #[.string x, .string y] w fun e w' => e = .returned (.int .i64 (cmpS x y)) ∧ w' = w := by
  go_enter Try.func43, Try.ntmps43
  go_wp2_with (first | (go_at_call 46; refine (nanS _ _).mono ?_; rintro e w' ⟨rfl, rfl⟩))
  all_goals
    go_ret
    exact ⟨ret_int (by simp_all [cmpS]), rfl⟩
theorem cmpL_nil_left (b : List ByteArray) : cmpL [] b = if b.length = 0 then 0 else -1 := by cases b <;> simp [cmpL]
theorem cmpL_nil_right {a : List ByteArray} (h : 0 < a.length) : cmpL a [] = 1 := by cases a <;> simp [cmpL] at *
theorem cmpL_drop {a b : List ByteArray} {k : Nat} (ha : k < a.length) (hb : k < b.length) : cmpL (a.drop k) (b.drop k) = if cmpS a[k] b[k] ≠ 0 then cmpS a[k] b[k] else cmpL (a.drop (k + 1)) (b.drop (k + 1)) := by
  rw [List.drop_eq_getElem_cons ha, List.drop_eq_getElem_cons hb, cmpL]
set_option maxRecDepth 100000 in
set_option maxHeartbeats 1000000 in
theorem compare_any (va vb : Value) (A B : List ByteArray) (w : World) (ha : SReads w va A) (hb : SReads w vb B) :
    Calls Try.prog 36 #[va, vb] w fun e w' => e = .returned (.int .i64 (cmpL A B)) ∧ w' = w := by
  obtain ⟨aa, ca, rfl, hma⟩ := ha.form
  obtain ⟨ab, cb, rfl, hmb⟩ := hb.form
  unfold maxLen at hma hmb
  have HA : Hid (SReads w (.slice aa A.length ca) A) := ha
  have HB : Hid (SReads w (.slice ab B.length cb) B) := hb
  clear ha hb
  go_enter Try.func36, Try.ntmps36
  go_wp2_with fail
  go_loop [11] (fun i => ∃ k : Nat, k ≤ A.length ∧ k ≤ B.length ∧ i = .int .i64 k ∧ Hid (cmpL A B = cmpL (A.drop k) (B.drop k))) (fun i => A.length - (intOf i).toNat)
  case atStart => exact ⟨0, Nat.zero_le _, Nat.zero_le _, rfl, rfl⟩
  case round =>
    obtain ⟨k, hk1, hk2, rfl, HK⟩ := hrel
    by_cases hlt : k < A.length
    · obtain ⟨ba, oa, rfl, _, c1⟩ := HA.out.at k hlt
      by_cases hlt2 : k < B.length
      · obtain ⟨bb, ob, rfl, _, c2⟩ := HB.out.at k hlt2
        have HS : Hid (cmpL A B = if cmpS A[k] B[k] ≠ 0 then cmpS A[k] B[k] else cmpL (A.drop (k + 1)) (B.drop (k + 1))) := HK.out.trans (cmpL_drop hlt hlt2)
        have i1 : ¬ (B.length : Int) ≤ (k : Int) := by omega
        generalize A[k] = s at *
        generalize B[k] = t at *
        go_wp2_with fail
        refine (cmpStr s t _).mono ?_
        rintro e w' ⟨rfl, hw⟩
        subst w'
        by_cases h0 : cmpS s t = 0
        · have HS2 : Hid (cmpL A B = cmpL (A.drop (k + 1)) (B.drop (k + 1))) := by rw [HS.out, if_neg (by simpa using h0)]; rfl
          clear HS
          go_wp2_with fail
          go_round
          case rel => exact ⟨k + 1, by omega, by omega, by go_num, HS2⟩
          case measure => simp [intOf]; omega
        · have HS2 : Hid (cmpL A B = cmpS s t) := by rw [HS.out, if_pos h0]; rfl
          have i2 : (cmpS s t == 0) = false := by simpa using h0
          clear HS h0
          go_wp2_with fail
          go_ret
          exact ⟨by rw [HS2.out]; rfl, rfl⟩
      · have HS : Hid (cmpL A B = 1) := by
          unfold Hid
          rw [HK.out, List.drop_eq_nil_of_le (show B.length ≤ k by omega)]
          exact cmpL_nil_right (by simp; omega)
        have i1 : (B.length : Int) ≤ (k : Int) := by omega
        go_wp2_with fail
        go_ret
        exact ⟨by rw [HS.out]; rfl, rfl⟩
    · have HS : Hid (cmpL A B = if B.length - k = 0 then 0 else -1) := by
        unfold Hid
        rw [HK.out, List.drop_eq_nil_of_le (show A.length ≤ k by omega), cmpL_nil_left, List.length_drop]
      by_cases hl : A.length < B.length
      · have HS2 : Hid (cmpL A B = -1) := by rw [HS.out, if_neg (by omega)]; rfl
        have i1 : (A.length : Int) < (B.length : Int) := by omega
        clear HS
        go_wp2_with fail
        go_ret
        exact ⟨by rw [HS2.out]; rfl, rfl⟩
      · have HS2 : Hid (cmpL A B = 0) := by rw [HS.out, if_pos (by omega)]; rfl
        have i1 : ¬ (A.length : Int) < (B.length : Int) := by omega
        clear HS
        go_wp2_with fail
        go_ret
        exact ⟨by rw [HS2.out]; rfl, rfl⟩
/-- The first of three that is not 0. -/
def or3 (a b c : Int) : Int := if a ≠ 0 then a else if b ≠ 0 then b else c
set_option maxRecDepth 100000 in
set_option maxHeartbeats 1000000 in
theorem or_any (g cap : Nat) (a b c : Int) (w : World) (c0 : w.cell? ⟨g, 0, none⟩ = some (.int .i64 a)) (c1 : w.cell? ⟨g, 1, none⟩ = some (.int .i64 b)) (c2 : w.cell? ⟨g, 2, none⟩ = some (.int .i64 c)) :
    Calls Try.prog 35 #[.slice (some ⟨g, 0, none⟩) 3 cap] w fun e w' => e = .returned (.int .i64 (or3 a b c)) ∧ w' = w := by
  have HE : Hid (or3 a b c = if a ≠ 0 then a else if b ≠ 0 then b else c) := rfl
  go_enter Try.func35, Try.ntmps35
  go_wp2_with fail
  go_loop [8] (fun i => ∃ k : Nat, k ≤ 3 ∧ i = .int .i64 k ∧ Hid ((1 ≤ k → a = 0) ∧ (2 ≤ k → b = 0) ∧ (3 ≤ k → c = 0))) (fun i => 3 - (intOf i).toNat)
  case atStart => exact ⟨0, by omega, rfl, by omega, by omega, by omega⟩
  case round =>
    obtain ⟨k, hk, rfl, HK⟩ := hrel
    by_cases h3 : k < 3
    · have hk3 : k = 0 ∨ k = 1 ∨ k = 2 := by omega
      obtain ⟨x, hx, HX⟩ : ∃ x : Int, w.cell? ⟨g, k, none⟩ = some (.int .i64 x) ∧ Hid ((x ≠ 0 → or3 a b c = x) ∧ (x = 0 → (1 ≤ k + 1 → a = 0) ∧ (2 ≤ k + 1 → b = 0) ∧ (3 ≤ k + 1 → c = 0))) := by
        obtain ⟨h1, h2, h3⟩ := HK.out
        rcases hk3 with rfl | rfl | rfl
        · exact ⟨a, c0, fun h => by rw [HE.out, if_pos h], fun h => ⟨fun _ => h, by omega, by omega⟩⟩
        · have := h1 (by omega)
          exact ⟨b, c1, fun h => by rw [HE.out, if_neg (by simpa using this), if_pos h], fun h => ⟨fun _ => this, fun _ => h, by omega⟩⟩
        · have := h1 (by omega)
          have q := h2 (by omega)
          exact ⟨c, c2, fun h => by rw [HE.out, if_neg (by simpa using this), if_neg (by simpa using q)], fun h => ⟨fun _ => this, fun _ => q, fun _ => h⟩⟩
      clear hk3 c0 c1 c2 HE HK
      by_cases h0 : x = 0
      · have HY : Hid _ := HX.out.2 h0
        have i1 : (x == 0) = true := by simpa using h0
        clear HX h0
        go_wp2_with fail
        go_round
        case rel => exact ⟨k + 1, by omega, by go_num, HY⟩
        case measure => simp [intOf]; omega
      · have HY : Hid _ := HX.out.1 h0
        have i1 : (x == 0) = false := by simpa using h0
        clear HX h0
        go_wp2_with fail
        go_ret
        exact ⟨by rw [HY.out]; rfl, rfl⟩
    · have HZ : Hid (or3 a b c = 0) := by
        obtain ⟨h1, h2, h3⟩ := HK.out
        rw [HE.out, h1 (by omega), h2 (by omega), h3 (by omega)]; rfl
      clear HE HK c0 c1 c2
      go_wp2_with fail
      go_ret
      exact ⟨by rw [HZ.out]; rfl, rfl⟩
end Go.Proofs.Ytbcdmammedabmaa
