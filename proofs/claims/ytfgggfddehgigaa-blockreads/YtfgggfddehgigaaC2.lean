/- The contract of code.ReadShort. -/
import Derived.Test.YtfgggfddehgigaaC1
import Derived.Laws.BitsAllLaws
import Derived.ScopeJumps
namespace Go.Proofs.Ytfgggfddehgigaa
open Go.RowKit

/-- What ReadShort tells of bytes, of which i were read, and made v. -/
def rsF : List UInt8 → Nat → Nat → Nat × Nat × Int
  | [], _, _ => (0, 0, 10)
  | x :: l, i, v =>
    if i = 9 ∧ 1 < x.toNat then (0, 0, 11)
    else if 128 ≤ x.toNat then rsF l (i + 1) (v + x.toNat % 128 * 128 ^ i)
    else if x.toNat = 0 ∧ 0 < i then (0, 0, 3) else (v + x.toNat % 128 * 128 ^ i, i + 1, 0)

/-- What holds at each jump to the fault. -/
def JRs (l : List UInt8) (w : World) (a' : Act) (w' : World) : Prop := w' = w ∧ ∃ (u0 u1 u2 u3 u4 u5 u7 u8 u9 u10 u11 u12 u13 u14 u15 u16 u17 u18 u19 u20 u21 u22 u23 u24 u25 u26 u27 u28 u29 u30 u31 u32 u33 u34 u35 u36 u37 u38 u39 u40 u41 u42 : Value), a' = { tmps := #[u0, u1, u2, u3, u4, u5, .int .i64 (rsF l 0 0).2.2, u7, u8, u9, u10, u11, u12, u13, u14, u15, u16, u17, u18, u19, u20, u21, u22, u23, u24, u25, u26, u27, u28, u29, u30, u31, u32, u33, u34, u35, u36, u37, u38, u39, u40, u41, u42], defers := [] } ∧ (rsF l 0 0).1 = 0 ∧ (rsF l 0 0).2.1 = 0
theorem JRs_of {l : List UInt8} {w : World} {E : Int} {u0 u1 u2 u3 u4 u5 u7 u8 u9 u10 u11 u12 u13 u14 u15 u16 u17 u18 u19 u20 u21 u22 u23 u24 u25 u26 u27 u28 u29 u30 u31 u32 u33 u34 u35 u36 u37 u38 u39 u40 u41 u42 : Value} (h : rsF l 0 0 = (0, 0, E)) : JRs l w { tmps := #[u0, u1, u2, u3, u4, u5, .int .i64 E, u7, u8, u9, u10, u11, u12, u13, u14, u15, u16, u17, u18, u19, u20, u21, u22, u23, u24, u25, u26, u27, u28, u29, u30, u31, u32, u33, u34, u35, u36, u37, u38, u39, u40, u41, u42], defers := [] } w := by
  refine ⟨rfl, u0, u1, u2, u3, u4, u5, u7, u8, u9, u10, u11, u12, u13, u14, u15, u16, u17, u18, u19, u20, u21, u22, u23, u24, u25, u26, u27, u28, u29, u30, u31, u32, u33, u34, u35, u36, u37, u38, u39, u40, u41, u42, ?_, by rw [h], by rw [h]⟩
  rw [h]
theorem jump_ret {l : Nat} {J : Act → World → Prop} {Q : Exit → Act → World → Prop} {a : Act} {w : World} : Exit.jump l J Q .ret a w = Q .ret a w := rfl
theorem rsF_cons (x : UInt8) (l : List UInt8) (i v : Nat) : rsF (x :: l) i v = if i = 9 ∧ 1 < x.toNat then (0, 0, 11) else if 128 ≤ x.toNat then rsF l (i + 1) (v + x.toNat % 128 * 128 ^ i) else if x.toNat = 0 ∧ 0 < i then (0, 0, 3) else (v + x.toNat % 128 * 128 ^ i, i + 1, 0) := rfl
theorem pow128 (k : Nat) (hk : k ≤ 9) : 128 ^ k ≤ 9223372036854775808 := by
  have : 128 ^ k ≤ 128 ^ 9 := Nat.pow_le_pow_right (by omega) hk
  exact Nat.le_trans this (by decide)
theorem pow2_128 (k : Nat) : (2 : Nat) ^ (7 * k) = 128 ^ k := by rw [Nat.pow_mul]
theorem short_fit (z k : Nat) (hk : k ≤ 9) (hz : z < 128) (h9 : k = 9 → z ≤ 1) : z * 128 ^ k ≤ 9223372036854775808 := by
  by_cases h : k = 9
  · subst h
    have := h9 rfl
    have : z * 128 ^ 9 ≤ 1 * 128 ^ 9 := Nat.mul_le_mul_right _ this
    exact Nat.le_trans this (by decide)
  · have h1 : z * 128 ^ k ≤ 128 * 128 ^ k := Nat.mul_le_mul_right _ (by omega)
    have h2 : 128 * 128 ^ k = 128 ^ (k + 1) := by rw [Nat.pow_succ, Nat.mul_comm]
    rw [h2] at h1
    exact Nat.le_trans h1 (pow128 (k + 1) (by omega))
theorem or_short (v y k : Nat) (hk : k ≤ 9) (hv : v < 128 ^ k) (h9 : k = 9 → y % 128 ≤ 1) : bits .or .u64 (v : Int) (IntKind.u64.wrap ((y : Int) % 128 * 2 ^ (7 * k))) = ((v + y % 128 * 128 ^ k : Nat) : Int) := by
  have hf := short_fit (y % 128) k hk (by omega) h9
  have hp := pow128 k hk
  have e : (y : Int) % 128 * 2 ^ (7 * k) = ((y % 128 * 128 ^ k : Nat) : Int) := by
    rw [← pow2_128]; push_cast; rfl
  rw [e, IntKind.wrap_u64]
  have e2 : ((y % 128 * 128 ^ k : Nat) : Int) % 18446744073709551616 = ((y % 128 * 128 ^ k : Nat) : Int) := by omega
  rw [e2, bits_or_u64_nat _ _ (by omega) (by omega), Nat.or_comm, nat_join (7 * k) _ _ (by rw [pow2_128]; exact Nat.mul_mod_left _ _) (by rw [pow2_128]; exact hv), Nat.add_comm]

set_option maxRecDepth 100000 in
set_option maxHeartbeats 1000000 in
theorem readShort_some (b off cap : Nat) (l : List UInt8) (h0 : 0 < l.length) (w : World) (hc : ∀ j (h : j < l.length), w.cell? ⟨b, off + j, none⟩ = some (bc l[j])) :
    Calls Try.prog 30 #[.slice (some ⟨b, off, none⟩) l.length cap] w fun e w' => e = .returned (.tuple #[.int .u64 (rsF l 0 0).1, .int .i64 (rsF l 0 0).2.1, .int .i64 (rsF l 0 0).2.2]) ∧ Below w.heap.size w w' := by
  go_enter Try.func30, Try.ntmps30
  go_wp2_with fail
  refine wp_scope_jumps 0 (JRs l w) (fun _ _ => 0) rfl ?_ ?_
  · go_wp2_with fail
    go_loop [5, 6, 11] (fun x e i => ∃ k v : Nat, k ≤ l.length ∧ e = .int .i64 10 ∧ k ≤ 9 ∧ v < 128 ^ k ∧ i = .int .i64 (k : Int) ∧ x = .int .u64 (v : Int) ∧ rsF (l.drop k) k v = rsF l 0 0) (fun _ _ i => l.length - (intOf i).toNat)
    case atStart => exact ⟨0, 0, by omega, rfl, by omega, by decide, rfl, rfl, rfl⟩
    case round =>
      obtain ⟨k, v, hk, rfl, hk9, hv, rfl, rfl, hF⟩ := hrel
      by_cases hlt : k < l.length
      · have hcell := hc k hlt
        have hki : (k : Int) < (l.length : Int) := by omega
        rw [List.drop_eq_getElem_cons hlt, rsF_cons] at hF
        generalize l[k] = x at *
        have hx : x.toNat < 256 := UInt8.toNat_lt x
        unfold bc at hcell
        generalize x.toNat = y at *
        clear hc
        by_cases h9 : k = 9 ∧ 1 < y
        · rw [if_pos h9] at hF
          have HF : Hid _ := hF.symm
          have i1 : ((k : Int) == 9) = true := by simp; omega
          have i2 : 1 < (y : Int) := by omega
          clear hF h9
          go_wp2_with fail
          go_step3
          exact And.intro (a := 0 = 0) rfl (JRs_of HF.out)
        · rw [if_neg h9] at hF
          have HOR : Hid _ := or_short v y k hk9 hv (fun h => by omega)
          by_cases h128 : 128 ≤ y
          · rw [if_pos h128] at hF
            have HF : Hid _ := hF
            have i1 : (128 : Int) ≤ (y : Int) := by omega
            have i3 : ((k : Int) == 9) = false := by simp; omega
            have hk8 : k ≤ 8 := by omega
            have hv2 : v + y % 128 * 128 ^ k < 128 ^ (k + 1) := by
              have h2 : y % 128 * 128 ^ k ≤ 127 * 128 ^ k := Nat.mul_le_mul_right _ (by omega)
              have h3 : 128 ^ (k + 1) = 128 * 128 ^ k := by rw [Nat.pow_succ, Nat.mul_comm]
              generalize 128 ^ k = q at *
              omega
            clear hF h9 h128
            go_wp2_with fail
            rw [HOR.out]
            go_round
            case rel => exact ⟨k + 1, _, by omega, rfl, by omega, hv2, by go_num, rfl, HF.out⟩
            case measure => simp [intOf]; omega
          · rw [if_neg h128] at hF
            have i1 : ¬ (128 : Int) ≤ (y : Int) := by omega
            by_cases h00 : y = 0 ∧ 0 < k
            · rw [if_pos h00] at hF
              have HF : Hid _ := hF.symm
              have i2 : ((y : Int) == 0) = true := by simp; omega
              have i4 : (0 : Int) < (k : Int) := by omega
              clear hF h9 h128 h00
              by_cases i5 : k = 9
              · have i3 : ((k : Int) == 9) = true := by simp; omega
                have i6 : ¬ 1 < (y : Int) := by simp at i2; omega
                clear i5
                go_wp2_with fail
                go_step3
                exact And.intro (a := 0 = 0) rfl (JRs_of HF.out)
              · have i3 : ((k : Int) == 9) = false := by simp; omega
                go_wp2_with fail
                go_step3
                exact And.intro (a := 0 = 0) rfl (JRs_of HF.out)
            · rw [if_neg h00] at hF
              have HF : Hid _ := hF.symm
              have i5 : ((k : Int) == 9) = decide (k = 9) := by by_cases h : k = 9 <;> simp [h] <;> omega
              have i6 : ((y : Int) == 0) = decide (y = 0) := by by_cases h : y = 0 <;> simp [h] <;> omega
              by_cases h9b : k = 9
              · have i3 : ((k : Int) == 9) = true := by rw [i5]; simpa using h9b
                have i7 : ¬ 1 < (y : Int) := by omega
                have i8 : ((y : Int) == 0) = false := by rw [i6]; simp; omega
                clear i5 i6 hF h9 h128 h00 h9b
                go_wp2_with fail
                rw [HOR.out, jump_ret]
                go_ret3
                exact ⟨by rw [HF.out]; rfl, Below.refl _ _⟩
              · have i3 : ((k : Int) == 9) = false := by rw [i5]; simpa using h9b
                by_cases hy0 : y = 0
                · have i8 : ((y : Int) == 0) = true := by rw [i6]; simpa using hy0
                  have i9 : ¬ (0 : Int) < (k : Int) := by omega
                  have HY : Hid (y = 0) := hy0
                  clear i5 i6 hF h9 h128 h00 h9b hy0
                  go_wp2_with fail
                  rw [HOR.out, jump_ret]
                  go_ret3
                  exact ⟨by rw [HF.out]; rfl, Below.refl _ _⟩
                · have i8 : ((y : Int) == 0) = false := by rw [i6]; simpa using hy0
                  clear i5 i6 hF h9 h128 h00 h9b hy0
                  go_wp2_with fail
                  rw [HOR.out, jump_ret]
                  go_ret3
                  exact ⟨by rw [HF.out]; rfl, Below.refl _ _⟩
      · have hke : k = l.length := by omega
        subst hke
        rw [List.drop_length] at hF
        have HF : Hid _ := hF.symm
        clear hc hF
        go_wp2_with fail
        go_step3
        go_wp2_with fail
        rw [jump_ret]
        go_ret3
        exact ⟨by rw [HF.out]; rfl, Below.refl _ _⟩
  · rintro a' w' ⟨rfl, u0, u1, u2, u3, u4, u5, u7, u8, u9, u10, u11, u12, u13, u14, u15, u16, u17, u18, u19, u20, u21, u22, u23, u24, u25, u26, u27, u28, u29, u30, u31, u32, u33, u34, u35, u36, u37, u38, u39, u40, u41, u42, rfl, e1, e2⟩
    have E1 : Hid _ := e1
    have E2 : Hid _ := e2
    clear e1 e2
    go_wp2_with fail
    rw [jump_ret]
    go_ret3
    exact ⟨by rw [E1.out, E2.out]; rfl, Below.refl _ _⟩

set_option maxRecDepth 100000 in
set_option maxHeartbeats 1000000 in
theorem readShort_none (a : Option Addr) (cap : Nat) (w : World) :
    Calls Try.prog 30 #[.slice a 0 cap] w fun e w' => e = .returned (.tuple #[.int .u64 0, .int .i64 0, .int .i64 10]) ∧ Below w.heap.size w w' := by
  go_enter Try.func30, Try.ntmps30
  go_wp2_with fail
  go_step3
  go_wp2_with fail
  go_loop [6, 11] (fun e i => e = .int .i64 10 ∧ i = .int .i64 0) (fun _ _ => 0)
  case atStart => exact ⟨rfl, rfl⟩
  case round =>
    obtain ⟨rfl, rfl⟩ := hrel
    go_wp2_with fail
    go_step3
    go_wp2_with fail
    (try rw [Exit.noGoto_ret])
    go_ret3
    exact ⟨rfl, Below.refl _ _⟩
theorem readShort_any (v : Value) (l : List UInt8) (w : World) (h : Reads w v l) :
    Calls Try.prog 30 #[v] w fun e w' => e = .returned (.tuple #[.int .u64 (rsF l 0 0).1, .int .i64 (rsF l 0 0).2.1, .int .i64 (rsF l 0 0).2.2]) ∧ Below w.heap.size w w' := by
  rcases h with ⟨rfl, a, cap, rfl, _⟩ | ⟨b, off, cap, rfl, h2, h3, h4, h5, h6⟩
  · exact readShort_none a cap w
  · exact readShort_some b off cap l h2 w h6
end Go.Proofs.Ytfgggfddehgigaa
