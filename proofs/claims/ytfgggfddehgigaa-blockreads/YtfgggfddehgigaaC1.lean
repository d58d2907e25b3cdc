/- The contract of code.Short: a number, short. -/
import Derived.Test.YtfgggfddehgigaaC0
namespace Go.Proofs.Ytfgggfddehgigaa
open Go.RowKit

/-- A number's bytes, short. -/
def sh (n : Nat) : List UInt8 := if n < 128 then [UInt8.ofNat n] else UInt8.ofNat (n % 128 + 128) :: sh (n / 128)
termination_by n
decreasing_by omega
theorem sh_lo {n : Nat} (h : n < 128) : sh n = [UInt8.ofNat n] := by rw [sh]; simp [h]
theorem sh_hi {n : Nat} (h : ¬ n < 128) : sh n = UInt8.ofNat (n % 128 + 128) :: sh (n / 128) := by rw [sh]; simp [h]
theorem bc_of {n : Nat} (h : n < 256) : bc (UInt8.ofNat n) = .int .u8 (n : Int) := by
  unfold bc
  have : (UInt8.ofNat n).toNat = n := by simp [UInt8.toNat_ofNat']; omega
  rw [this]
theorem sh_len (k : Nat) : ∀ n, n < 128 ^ (k + 1) → (sh n).length ≤ k + 1 := by
  induction k with
  | zero => intro n hn; rw [sh_lo (by simpa using hn)]; simp
  | succ k ih =>
    intro n hn
    by_cases h : n < 128
    · rw [sh_lo h]; simp
    · rw [sh_hi h]
      have := ih (n / 128) (by rw [Nat.div_lt_iff_lt_mul (by omega)]; rw [Nat.pow_succ] at hn; exact hn)
      simp; omega
theorem sh_len10 {n : Nat} (h : n < 18446744073709551616) : (sh n).length ≤ 10 := sh_len 9 n (Nat.lt_of_lt_of_le h (by decide))
theorem sh_pos (n : Nat) : 0 < (sh n).length := by
  by_cases h : n < 128
  · rw [sh_lo h]; simp
  · rw [sh_hi h]; simp

set_option maxRecDepth 100000 in
set_option maxHeartbeats 1000000 in
theorem short_any (n : Nat) (hn : n < 18446744073709551616) (w : World) :
    Calls Try.prog 21 #[.int .u64 (n : Int)] w fun e w' => ∃ v, e = .returned v ∧ w'.ownsRow w.heap.size 5 1 v (sh n).length ((sh n).map bc) ∧ Below w.heap.size w w' := by
  obtain ⟨i0, hi, hz0, hz1, hz2⟩ := info_parts info5
  go_enter Try.func21, Try.ntmps21
  go_wp2_with fail
  go_loopw [0, 3] (fun x v wr => ∃ (m : Nat) (L : List UInt8), m < 18446744073709551616 ∧ x = .int .u64 (m : Int) ∧ sh n = L ++ sh m ∧ wr.ownsRow w.heap.size 5 1 v L.length (L.map bc) ∧ Below w.heap.size w wr) (fun x _ _ => (intOf x).toNat)
  case atStart => exact ⟨n, [], hn, rfl, rfl, World.ownsRow_nil _ _ _ _, Below.refl _ _⟩
  case round =>
    obtain ⟨m, L, hm, rfl, hL, hown, hbr⟩ := hrel
    have hsz := hbr.size
    have hlen := sh_len10 hn
    rw [hL, List.length_append] at hlen
    have hpos := sh_pos m
    by_cases hlt : m < 128
    · have hlti : (m : Int) < 128 := by omega
      have HO0 : Hid _ := hL
      clear hL
      go_wp2_with (at_builtin; refine wpList_append_own _ rfl _ _ 23 rfl w.heap.size 5 i0 (.int .u8 0) 1 1 Try.underlying23 hi hz0 hz1 hz2 rfl (by decide) _ _ _ rfl (hown.alloc _) ⟨wr.heap.size, 0, none⟩ 1 1 [.int .u8 (m : Int)] rfl rfl news1 one1 (len_ok (by omega)).1 (len_ok (by omega)).2 (al_ok hsz) ?_)
      intro v' w1 hown' hgrow _
      have HO2 : Hid (w1.ownsRow w.heap.size 5 1 v' (sh n).length ((sh n).map bc)) := by
        have e : (sh n).length = L.length + 1 := by rw [HO0.out, sh_lo hlt]; simp
        rw [e, HO0.out, sh_lo hlt, List.map_append]
        simp only [List.map_cons, List.map_nil]
        rw [bc_of (by omega)]
        exact hown'
      have HB2 : Hid (Below w.heap.size w w1) := (hbr.alloc hbr.size _).grown hgrow (by have := hbr.size; simp; omega) (own_block hown)
      clear hown hown' hgrow hbr
      go_wp2_with fail
      go_ret
      exact ⟨_, rfl, HO2.out, HB2.out⟩
    · have hlti : ¬ (m : Int) < 128 := by omega
      have HO0 : Hid _ := hL
      clear hL
      go_wp2_with (at_builtin; refine wpList_append_own _ rfl _ _ 23 rfl w.heap.size 5 i0 (.int .u8 0) 1 1 Try.underlying23 hi hz0 hz1 hz2 rfl (by decide) _ _ _ rfl (hown.alloc _) ⟨wr.heap.size, 0, none⟩ 1 1 [.int .u8 ((m : Int) % 128 + 128)] rfl rfl news1 one1 (len_ok (by omega)).1 (len_ok (by omega)).2 (al_ok hsz) ?_)
      intro v' w1 hown' hgrow _
      have hp2 : (sh m).length = (sh (m / 128)).length + 1 := by rw [sh_hi hlt]; simp
      have HO2 : Hid (w1.ownsRow w.heap.size 5 1 v' (L ++ [UInt8.ofNat (m % 128 + 128)]).length ((L ++ [UInt8.ofNat (m % 128 + 128)]).map bc)) := by
        rw [List.map_append, List.length_append]
        simp only [List.map_cons, List.map_nil]
        rw [bc_of (by omega)]
        have e : ((m % 128 + 128 : Nat) : Int) = (m : Int) % 128 + 128 := by omega
        rw [e]
        exact hown'
      have HB2 : Hid (Below w.heap.size w w1) := (hbr.alloc hbr.size _).grown hgrow (by have := hbr.size; simp; omega) (own_block hown)
      have HE : Hid (sh n = (L ++ [UInt8.ofNat (m % 128 + 128)]) ++ sh (m / 128)) := by unfold Hid; rw [HO0.out, sh_hi hlt]; simp
      clear hown hown' hgrow hbr HO0
      go_wp2_with fail
      go_roundw
      case rel => exact ⟨m / 128, L ++ [UInt8.ofNat (m % 128 + 128)], by omega, by go_num, HE.out, HO2.out, HB2.out⟩
      case measure => simp [intOf]; omega
end Go.Proofs.Ytfgggfddehgigaa
