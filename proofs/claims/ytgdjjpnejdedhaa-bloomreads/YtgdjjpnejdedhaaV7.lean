/- The contracts of the reference's step, More and Sum. -/
import Derived.Test.YtgdjjpnejdedhaaV2
namespace Go.Proofs.Ytgdjjpnejdedhaa
open Go.RowKit

theorem ret_int {k : IntKind} {a b : Int} (h : a = b) : Ending.returned (.int k a) = .returned (.int k b) := by rw [h]

set_option maxRecDepth 100000 in
set_option maxHeartbeats 1000000 in
theorem step_any (c : Nat) (hc : c < 4294967296) (x : UInt8) (w : World) :
    Calls Try.prog 32 #[.int .u32 (c : Int), .int .u8 (x.toNat : Int)] w fun e w' => e = .returned (.int .u32 (byt c x : Nat)) ∧ w' = w := by
  have hxb : x.toNat < 256 := x.toNat_lt
  have hx := x_xor (c := c) (d := x.toNat) hc (by omega)
  go_enter Try.func32, Try.ntmps32
  go_wp2_with fail
  go_loop [0, 5] (fun r i => ∃ m d : Nat, m ≤ 8 ∧ i = .int .i64 m ∧ d < 4294967296 ∧ r = .int .u32 (d : Int) ∧ Hid (d = stps m (c ^^^ x.toNat))) (fun _ i => 8 - (intOf i).toNat)
  case atStart => exact ⟨0, _, by omega, rfl, xor_lt32 hc (by omega), rfl, rfl⟩
  case round =>
    obtain ⟨m, d, hm, rfl, hd, rfl, HD⟩ := hrel
    by_cases hm8 : m < 8
    · have y1 := x_turn hd
      rcases Nat.mod_two_eq_zero_or_one d with h2 | h2
      · have hs2 : stp d = d / 2 := by unfold stp; rw [if_neg (by omega)]
        have HS : Hid (d / 2 = stps (m + 1) (c ^^^ x.toNat)) := by unfold Hid; rw [stps_snoc, ← HD.out, hs2]
        have h3 : (d : Int) % 2 = 0 := by omega
        clear hs2 h2
        go_wp2_with fail
        go_round
        case rel => exact ⟨m + 1, d / 2, by omega, by go_num, by omega, by go_num, HS⟩
        case measure => simp [intOf]; omega
      · have hs2 : stp d = d / 2 ^^^ 2197175160 := by unfold stp; rw [if_pos h2]
        have HS : Hid (d / 2 ^^^ 2197175160 = stps (m + 1) (c ^^^ x.toNat)) := by unfold Hid; rw [stps_snoc, ← HD.out, hs2]
        have hlt2 := xor_lt32 (a := d / 2) (b := 2197175160) (by omega) (by omega)
        have h3 : (d : Int) % 2 = 1 := by omega
        clear hs2 h2
        go_wp2_with fail
        go_round
        case rel => exact ⟨m + 1, d / 2 ^^^ 2197175160, by omega, by go_num, hlt2, rfl, HS⟩
        case measure => simp [intOf]; omega
    · have HS : Hid (d = byt c x) := by
        unfold Hid
        have e8 : m = 8 := by omega
        rw [HD.out, e8]; rfl
      go_wp2_with fail
      go_ret
      exact ⟨by rw [HS.out]; rfl, rfl⟩
set_option maxRecDepth 100000 in
set_option maxHeartbeats 1000000 in
theorem refMore_some (s : Nat) (hs : s < 4294967296) (b off cap : Nat) (l : List UInt8) (hl : l.length ≤ maxLen) (w : World)
    (hc : ∀ j (h : j < l.length), w.cell? ⟨b, off + j, none⟩ = some (bc l[j])) :
    Calls Try.prog 31 #[.int .u32 (s : Int), .slice (some ⟨b, off, none⟩) l.length cap] w fun e w' => e = .returned (.int .u32 (mor s l : Nat)) ∧ w' = w := by
  unfold maxLen at hl
  have HC : Hid (∀ j (h : j < l.length), w.cell? ⟨b, off + j, none⟩ = some (bc l[j])) := hc
  clear hc
  go_enter Try.func31, Try.ntmps31
  go_wp2_with fail
  go_loop [5, 6] (fun r i => ∃ k c : Nat, k ≤ l.length ∧ i = .int .i64 k ∧ c < 4294967296 ∧ r = .int .u32 (c : Int) ∧ Hid (c = reg (4294967295 - s) (l.take k))) (fun _ i => l.length - (intOf i).toNat)
  case atStart => exact ⟨0, 4294967295 - s, Nat.zero_le _, rfl, by omega, by go_num, rfl⟩
  case round =>
    obtain ⟨k, c, hk, rfl, hcl, rfl, HE⟩ := hrel
    by_cases hlt : k < l.length
    · have hcell := HC.out k hlt
      unfold bc at hcell
      go_wp2_with fail
      refine (step_any c hcl l[k] _).mono ?_
      rintro e w1 ⟨rfl, hw⟩
      subst w1
      have HS : Hid (byt c l[k] = reg (4294967295 - s) (l.take (k + 1))) := by
        unfold Hid
        rw [List.take_succ_eq_append_getElem hlt, reg_snoc, ← HE.out]
      have hbl := byt_lt (c := c) (x := l[k]) hcl
      go_wp2_with fail
      go_round
      case rel => exact ⟨k + 1, _, by omega, by go_num, hbl, rfl, HS⟩
      case measure => simp [intOf]; omega
    · have hkl : k = l.length := by omega
      have HS : Hid (4294967295 - c = mor s l) := by
        unfold Hid mor
        rw [HE.out, hkl, List.take_length]
      clear hkl
      go_wp2_with fail
      go_ret
      exact ⟨by rw [← HS.out]; exact ret_int (by omega), rfl⟩
theorem refMore_none (s : Nat) (hs : s < 4294967296) (a : Option Addr) (cap : Nat) (w : World) :
    Calls Try.prog 31 #[.int .u32 (s : Int), .slice a 0 cap] w fun e w' => e = .returned (.int .u32 (mor s [] : Nat)) ∧ w' = w := by
  have HS : Hid (mor s [] = s) := mor_nil hs
  go_enter Try.func31, Try.ntmps31
  go_wp2_with fail
  go_loop [5, 6] (fun r i => i = .int .i64 0 ∧ r = .int .u32 (4294967295 - (s : Int))) (fun _ _ => 0)
  case atStart => exact ⟨rfl, rfl⟩
  case round =>
    obtain ⟨rfl, rfl⟩ := hrel
    go_wp2_with fail
    go_ret
    exact ⟨by rw [HS.out]; exact ret_int (by omega), rfl⟩
theorem refMore_any (s : Nat) (hs : s < 4294967296) (v : Value) (l : List UInt8) (w : World) (h : Reads w v l) :
    Calls Try.prog 31 #[.int .u32 (s : Int), v] w fun e w' => e = .returned (.int .u32 (mor s l : Nat)) ∧ w' = w := by
  rcases h with ⟨rfl, a, cap, rfl, _⟩ | ⟨b, off, cap, rfl, h2, h3, h4, h5, h6⟩
  · exact refMore_none s hs a cap w
  · exact refMore_some s hs b off cap l (by omega) w h6
theorem refSum_any (v : Value) (l : List UInt8) (w : World) (h : Reads w v l) :
    Calls Try.prog 30 #[v] w fun e w' => e = .returned (.int .u32 (mor 0 l : Nat)) ∧ w' = w := by
  obtain ⟨a, cap, rfl, _⟩ := h.form
  go_enter Try.func30, Try.ntmps30
  go_wp2_with fail
  refine (refMore_any 0 (by decide) _ l _ h).mono ?_
  rintro e w' ⟨rfl, hw⟩
  subst w'
  clear h
  go_wp2_with fail
  go_ret
  exact ⟨rfl, rfl⟩
end Go.Proofs.Ytgdjjpnejdedhaa
