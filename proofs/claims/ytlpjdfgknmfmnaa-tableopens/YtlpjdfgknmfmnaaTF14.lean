/- C1 C2 SHp S2, joined. -/
import Derived.Test.YtlpjdfgknmfmnaaTF2
import Derived.Laws.BitsAllLaws
import Derived.ScopeJumps
import Derived.Lib.Bytealg
/- The contract of code.Short: a number, short. -/
namespace Go.Proofs.Ytlpjdfgknmfmnaa
open Go.RowKit

/-- A number's bytes, short. -/
def sh (n : Nat) : List UInt8 := if n < 128 then [UInt8.ofNat n] else UInt8.ofNat (n % 128 + 128) :: sh (n / 128)
termination_by n
decreasing_by omega
theorem sh_lo {n : Nat} (h : n < 128) : sh n = [UInt8.ofNat n] := by rw [sh]; simp [h]
theorem sh_hi {n : Nat} (h : ¬ n < 128) : sh n = UInt8.ofNat (n % 128 + 128) :: sh (n / 128) := by rw [sh]; simp [h]
theorem bc_of {n : Nat} (h : n < 256) : bc (UInt8.ofNat n) = .int .u8 (n : Int) := by
  unfold bc
  have : (UInt8.ofNat n).toNat = n := by simp [UInt8.toNat_ofNat']; omega
  rw [this]
theorem sh_len (k : Nat) : ∀ n, n < 128 ^ (k + 1) → (sh n).length ≤ k + 1 := by
  induction k with
  | zero => intro n hn; rw [sh_lo (by simpa using hn)]; simp
  | succ k ih =>
    intro n hn
    by_cases h : n < 128
    · rw [sh_lo h]; simp
    · rw [sh_hi h]
      have := ih (n / 128) (by rw [Nat.div_lt_iff_lt_mul (by omega)]; rw [Nat.pow_succ] at hn; exact hn)
      simp; omega
theorem sh_len10 {n : Nat} (h : n < 18446744073709551616) : (sh n).length ≤ 10 := sh_len 9 n (Nat.lt_of_lt_of_le h (by decide))
theorem sh_pos (n : Nat) : 0 < (sh n).length := by
  by_cases h : n < 128
  · rw [sh_lo h]; simp
  · rw [sh_hi h]; simp

set_option maxRecDepth 100000 in
set_option maxHeartbeats 1000000 in
theorem short_any (n : Nat) (hn : n < 18446744073709551616) (w : World) :
    Calls Try.prog 54 #[.int .u64 (n : Int)] w fun e w' => ∃ v, e = .returned v ∧ w'.ownsRow w.heap.size 5 1 v (sh n).length ((sh n).map bc) ∧ Below w.heap.size w w' := by
  obtain ⟨i0, hi, hz0, hz1, hz2⟩ := info_parts info5
  go_enter Try.func54, Try.ntmps54
  go_wp2_with fail
  go_loopw [0, 3] (fun x v wr => ∃ (m : Nat) (L : List UInt8), m < 18446744073709551616 ∧ x = .int .u64 (m : Int) ∧ sh n = L ++ sh m ∧ wr.ownsRow w.heap.size 5 1 v L.length (L.map bc) ∧ Below w.heap.size w wr) (fun x _ _ => (intOf x).toNat)
  case atStart => exact ⟨n, [], hn, rfl, rfl, World.ownsRow_nil _ _ _ _, Below.refl _ _⟩
  case round =>
    obtain ⟨m, L, hm, rfl, hL, hown, hbr⟩ := hrel
    have hsz := hbr.size
    have hlen := sh_len10 hn
    rw [hL, List.length_append] at hlen
    have hpos := sh_pos m
    by_cases hlt : m < 128
    · have hlti : (m : Int) < 128 := by omega
      have HO0 : Hid _ := hL
      clear hL
      go_wp2_with (at_builtin; refine wpList_append_own _ rfl _ _ 25 rfl w.heap.size 5 i0 (.int .u8 0) 1 1 Try.underlying25 hi hz0 hz1 hz2 rfl (by decide) _ _ _ rfl (hown.alloc _) ⟨wr.heap.size, 0, none⟩ 1 1 [.int .u8 (m : Int)] rfl rfl news1 one1 (len_ok (by omega)).1 (len_ok (by omega)).2 (al_ok hsz) ?_)
      intro v' w1 hown' hgrow _
      have HO2 : Hid (w1.ownsRow w.heap.size 5 1 v' (sh n).length ((sh n).map bc)) := by
        have e : (sh n).length = L.length + 1 := by rw [HO0.out, sh_lo hlt]; simp
        rw [e, HO0.out, sh_lo hlt, List.map_append]
        simp only [List.map_cons, List.map_nil]
        rw [bc_of (by omega)]
        exact hown'
      have HB2 : Hid (Below w.heap.size w w1) := (hbr.alloc hbr.size _).grown hgrow (by have := hbr.size; simp; omega) (own_block hown)
      clear hown hown' hgrow hbr
      go_wp2_with fail
      go_ret
      exact ⟨_, rfl, HO2.out, HB2.out⟩
    · have hlti : ¬ (m : Int) < 128 := by omega
      have HO0 : Hid _ := hL
      clear hL
      go_wp2_with (at_builtin; refine wpList_append_own _ rfl _ _ 25 rfl w.heap.size 5 i0 (.int .u8 0) 1 1 Try.underlying25 hi hz0 hz1 hz2 rfl (by decide) _ _ _ rfl (hown.alloc _) ⟨wr.heap.size, 0, none⟩ 1 1 [.int .u8 ((m : Int) % 128 + 128)] rfl rfl news1 one1 (len_ok (by omega)).1 (len_ok (by omega)).2 (al_ok hsz) ?_)
      intro v' w1 hown' hgrow _
      have hp2 : (sh m).length = (sh (m / 128)).length + 1 := by rw [sh_hi hlt]; simp
      have HO2 : Hid (w1.ownsRow w.heap.size 5 1 v' (L ++ [UInt8.ofNat (m % 128 + 128)]).length ((L ++ [UInt8.ofNat (m % 128 + 128)]).map bc)) := by
        rw [List.map_append, List.length_append]
        simp only [List.map_cons, List.map_nil]
        rw [bc_of (by omega)]
        have e : ((m % 128 + 128 : Nat) : Int) = (m : Int) % 128 + 128 := by omega
        rw [e]
        exact hown'
      have HB2 : Hid (Below w.heap.size w w1) := (hbr.alloc hbr.size _).grown hgrow (by have := hbr.size; simp; omega) (own_block hown)
      have HE : Hid (sh n = (L ++ [UInt8.ofNat (m % 128 + 128)]) ++ sh (m / 128)) := by unfold Hid; rw [HO0.out, sh_hi hlt]; simp
      clear hown hown' hgrow hbr HO0
      go_wp2_with fail
      go_roundw
      case rel => exact ⟨m / 128, L ++ [UInt8.ofNat (m % 128 + 128)], by omega, by go_num, HE.out, HO2.out, HB2.out⟩
      case measure => simp [intOf]; omega
end Go.Proofs.Ytlpjdfgknmfmnaa

/- The contract of code.ReadShort. -/
namespace Go.Proofs.Ytlpjdfgknmfmnaa
open Go.RowKit

/-- What ReadShort tells of bytes, of which i were read, and made v. -/
def rsF : List UInt8 → Nat → Nat → Nat × Nat × Int
  | [], _, _ => (0, 0, 10)
  | x :: l, i, v =>
    if i = 9 ∧ 1 < x.toNat then (0, 0, 11)
    else if 128 ≤ x.toNat then rsF l (i + 1) (v + x.toNat % 128 * 128 ^ i)
    else if x.toNat = 0 ∧ 0 < i then (0, 0, 3) else (v + x.toNat % 128 * 128 ^ i, i + 1, 0)

/-- What holds at each jump to the fault. -/
def JRs (l : List UInt8) (w : World) (a' : Act) (w' : World) : Prop := w' = w ∧ ∃ (u0 u1 u2 u3 u4 u5 u7 u8 u9 u10 u11 u12 u13 u14 u15 u16 u17 u18 u19 u20 u21 u22 u23 u24 u25 u26 u27 u28 u29 u30 u31 u32 u33 u34 u35 u36 u37 u38 u39 u40 u41 u42 : Value), a' = { tmps := #[u0, u1, u2, u3, u4, u5, .int .i64 (rsF l 0 0).2.2, u7, u8, u9, u10, u11, u12, u13, u14, u15, u16, u17, u18, u19, u20, u21, u22, u23, u24, u25, u26, u27, u28, u29, u30, u31, u32, u33, u34, u35, u36, u37, u38, u39, u40, u41, u42], defers := [] } ∧ (rsF l 0 0).1 = 0 ∧ (rsF l 0 0).2.1 = 0
theorem JRs_of {l : List UInt8} {w : World} {E : Int} {u0 u1 u2 u3 u4 u5 u7 u8 u9 u10 u11 u12 u13 u14 u15 u16 u17 u18 u19 u20 u21 u22 u23 u24 u25 u26 u27 u28 u29 u30 u31 u32 u33 u34 u35 u36 u37 u38 u39 u40 u41 u42 : Value} (h : rsF l 0 0 = (0, 0, E)) : JRs l w { tmps := #[u0, u1, u2, u3, u4, u5, .int .i64 E, u7, u8, u9, u10, u11, u12, u13, u14, u15, u16, u17, u18, u19, u20, u21, u22, u23, u24, u25, u26, u27, u28, u29, u30, u31, u32, u33, u34, u35, u36, u37, u38, u39, u40, u41, u42], defers := [] } w := by
  refine ⟨rfl, u0, u1, u2, u3, u4, u5, u7, u8, u9, u10, u11, u12, u13, u14, u15, u16, u17, u18, u19, u20, u21, u22, u23, u24, u25, u26, u27, u28, u29, u30, u31, u32, u33, u34, u35, u36, u37, u38, u39, u40, u41, u42, ?_, by rw [h], by rw [h]⟩
  rw [h]
theorem jump_ret {l : Nat} {J : Act → World → Prop} {Q : Exit → Act → World → Prop} {a : Act} {w : World} : Exit.jump l J Q .ret a w = Q .ret a w := rfl
theorem rsF_cons (x : UInt8) (l : List UInt8) (i v : Nat) : rsF (x :: l) i v = if i = 9 ∧ 1 < x.toNat then (0, 0, 11) else if 128 ≤ x.toNat then rsF l (i + 1) (v + x.toNat % 128 * 128 ^ i) else if x.toNat = 0 ∧ 0 < i then (0, 0, 3) else (v + x.toNat % 128 * 128 ^ i, i + 1, 0) := rfl
theorem pow128 (k : Nat) (hk : k ≤ 9) : 128 ^ k ≤ 9223372036854775808 := by
  have : 128 ^ k ≤ 128 ^ 9 := Nat.pow_le_pow_right (by omega) hk
  exact Nat.le_trans this (by decide)
theorem pow2_128 (k : Nat) : (2 : Nat) ^ (7 * k) = 128 ^ k := by rw [Nat.pow_mul]
theorem short_fit (z k : Nat) (hk : k ≤ 9) (hz : z < 128) (h9 : k = 9 → z ≤ 1) : z * 128 ^ k ≤ 9223372036854775808 := by
  by_cases h : k = 9
  · subst h
    have := h9 rfl
    have : z * 128 ^ 9 ≤ 1 * 128 ^ 9 := Nat.mul_le_mul_right _ this
    exact Nat.le_trans this (by decide)
  · have h1 : z * 128 ^ k ≤ 128 * 128 ^ k := Nat.mul_le_mul_right _ (by omega)
    have h2 : 128 * 128 ^ k = 128 ^ (k + 1) := by rw [Nat.pow_succ, Nat.mul_comm]
    rw [h2] at h1
    exact Nat.le_trans h1 (pow128 (k + 1) (by omega))
theorem or_short (v y k : Nat) (hk : k ≤ 9) (hv : v < 128 ^ k) (h9 : k = 9 → y % 128 ≤ 1) : bits .or .u64 (v : Int) (IntKind.u64.wrap ((y : Int) % 128 * 2 ^ (7 * k))) = ((v + y % 128 * 128 ^ k : Nat) : Int) := by
  have hf := short_fit (y % 128) k hk (by omega) h9
  have hp := pow128 k hk
  have e : (y : Int) % 128 * 2 ^ (7 * k) = ((y % 128 * 128 ^ k : Nat) : Int) := by
    rw [← pow2_128]; push_cast; rfl
  rw [e, IntKind.wrap_u64]
  have e2 : ((y % 128 * 128 ^ k : Nat) : Int) % 18446744073709551616 = ((y % 128 * 128 ^ k : Nat) : Int) := by omega
  rw [e2, bits_or_u64_nat _ _ (by omega) (by omega), Nat.or_comm, nat_join (7 * k) _ _ (by rw [pow2_128]; exact Nat.mul_mod_left _ _) (by rw [pow2_128]; exact hv), Nat.add_comm]

set_option maxRecDepth 100000 in
set_option maxHeartbeats 1000000 in
theorem readShort_some (b off cap : Nat) (l : List UInt8) (h0 : 0 < l.length) (w : World) (hc : ∀ j (h : j < l.length), w.cell? ⟨b, off + j, none⟩ = some (bc l[j])) :
    Calls Try.prog 101 #[.slice (some ⟨b, off, none⟩) l.length cap] w fun e w' => e = .returned (.tuple #[.int .u64 (rsF l 0 0).1, .int .i64 (rsF l 0 0).2.1, .int .i64 (rsF l 0 0).2.2]) ∧ Below w.heap.size w w' := by
  go_enter Try.func101, Try.ntmps101
  go_wp2_with fail
  refine wp_scope_jumps 0 (JRs l w) (fun _ _ => 0) rfl ?_ ?_
  · go_wp2_with fail
    go_loop [5, 6, 11] (fun x e i => ∃ k v : Nat, k ≤ l.length ∧ e = .int .i64 10 ∧ k ≤ 9 ∧ v < 128 ^ k ∧ i = .int .i64 (k : Int) ∧ x = .int .u64 (v : Int) ∧ rsF (l.drop k) k v = rsF l 0 0) (fun _ _ i => l.length - (intOf i).toNat)
    case atStart => exact ⟨0, 0, by omega, rfl, by omega, by decide, rfl, rfl, rfl⟩
    case round =>
      obtain ⟨k, v, hk, rfl, hk9, hv, rfl, rfl, hF⟩ := hrel
      by_cases hlt : k < l.length
      · have hcell := hc k hlt
        have hki : (k : Int) < (l.length : Int) := by omega
        rw [List.drop_eq_getElem_cons hlt, rsF_cons] at hF
        generalize l[k] = x at *
        have hx : x.toNat < 256 := UInt8.toNat_lt x
        unfold bc at hcell
        generalize x.toNat = y at *
        clear hc
        by_cases h9 : k = 9 ∧ 1 < y
        · rw [if_pos h9] at hF
          have HF : Hid _ := hF.symm
          have i1 : ((k : Int) == 9) = true := by simp; omega
          have i2 : 1 < (y : Int) := by omega
          clear hF h9
          go_wp2_with fail
          go_step3
          exact And.intro (a := 0 = 0) rfl (JRs_of HF.out)
        · rw [if_neg h9] at hF
          have HOR : Hid _ := or_short v y k hk9 hv (fun h => by omega)
          by_cases h128 : 128 ≤ y
          · rw [if_pos h128] at hF
            have HF : Hid _ := hF
            have i1 : (128 : Int) ≤ (y : Int) := by omega
            have i3 : ((k : Int) == 9) = false := by simp; omega
            have hk8 : k ≤ 8 := by omega
            have hv2 : v + y % 128 * 128 ^ k < 128 ^ (k + 1) := by
              have h2 : y % 128 * 128 ^ k ≤ 127 * 128 ^ k := Nat.mul_le_mul_right _ (by omega)
              have h3 : 128 ^ (k + 1) = 128 * 128 ^ k := by rw [Nat.pow_succ, Nat.mul_comm]
              generalize 128 ^ k = q at *
              omega
            clear hF h9 h128
            go_wp2_with fail
            rw [HOR.out]
            go_round
            case rel => exact ⟨k + 1, _, by omega, rfl, by omega, hv2, by go_num, rfl, HF.out⟩
            case measure => simp [intOf]; omega
          · rw [if_neg h128] at hF
            have i1 : ¬ (128 : Int) ≤ (y : Int) := by omega
            by_cases h00 : y = 0 ∧ 0 < k
            · rw [if_pos h00] at hF
              have HF : Hid _ := hF.symm
              have i2 : ((y : Int) == 0) = true := by simp; omega
              have i4 : (0 : Int) < (k : Int) := by omega
              clear hF h9 h128 h00
              by_cases i5 : k = 9
              · have i3 : ((k : Int) == 9) = true := by simp; omega
                have i6 : ¬ 1 < (y : Int) := by simp at i2; omega
                clear i5
                go_wp2_with fail
                go_step3
                exact And.intro (a := 0 = 0) rfl (JRs_of HF.out)
              · have i3 : ((k : Int) == 9) = false := by simp; omega
                go_wp2_with fail
                go_step3
                exact And.intro (a := 0 = 0) rfl (JRs_of HF.out)
            · rw [if_neg h00] at hF
              have HF : Hid _ := hF.symm
              have i5 : ((k : Int) == 9) = decide (k = 9) := by by_cases h : k = 9 <;> simp [h] <;> omega
              have i6 : ((y : Int) == 0) = decide (y = 0) := by by_cases h : y = 0 <;> simp [h] <;> omega
              by_cases h9b : k = 9
              · have i3 : ((k : Int) == 9) = true := by rw [i5]; simpa using h9b
                have i7 : ¬ 1 < (y : Int) := by omega
                have i8 : ((y : Int) == 0) = false := by rw [i6]; simp; omega
                clear i5 i6 hF h9 h128 h00 h9b
                go_wp2_with fail
                rw [HOR.out, jump_ret]
                go_ret3
                exact ⟨by rw [HF.out]; rfl, Below.refl _ _⟩
              · have i3 : ((k : Int) == 9) = false := by rw [i5]; simpa using h9b
                by_cases hy0 : y = 0
                · have i8 : ((y : Int) == 0) = true := by rw [i6]; simpa using hy0
                  have i9 : ¬ (0 : Int) < (k : Int) := by omega
                  have HY : Hid (y = 0) := hy0
                  clear i5 i6 hF h9 h128 h00 h9b hy0
                  go_wp2_with fail
                  rw [HOR.out, jump_ret]
                  go_ret3
                  exact ⟨by rw [HF.out]; rfl, Below.refl _ _⟩
                · have i8 : ((y : Int) == 0) = false := by rw [i6]; simpa using hy0
                  clear i5 i6 hF h9 h128 h00 h9b hy0
                  go_wp2_with fail
                  rw [HOR.out, jump_ret]
                  go_ret3
                  exact ⟨by rw [HF.out]; rfl, Below.refl _ _⟩
      · have hke : k = l.length := by omega
        subst hke
        rw [List.drop_length] at hF
        have HF : Hid _ := hF.symm
        clear hc hF
        go_wp2_with fail
        go_step3
        go_wp2_with fail
        rw [jump_ret]
        go_ret3
        exact ⟨by rw [HF.out]; rfl, Below.refl _ _⟩
  · rintro a' w' ⟨rfl, u0, u1, u2, u3, u4, u5, u7, u8, u9, u10, u11, u12, u13, u14, u15, u16, u17, u18, u19, u20, u21, u22, u23, u24, u25, u26, u27, u28, u29, u30, u31, u32, u33, u34, u35, u36, u37, u38, u39, u40, u41, u42, rfl, e1, e2⟩
    have E1 : Hid _ := e1
    have E2 : Hid _ := e2
    clear e1 e2
    go_wp2_with fail
    rw [jump_ret]
    go_ret3
    exact ⟨by rw [E1.out, E2.out]; rfl, Below.refl _ _⟩

set_option maxRecDepth 100000 in
set_option maxHeartbeats 1000000 in
theorem readShort_none (a : Option Addr) (cap : Nat) (w : World) :
    Calls Try.prog 101 #[.slice a 0 cap] w fun e w' => e = .returned (.tuple #[.int .u64 0, .int .i64 0, .int .i64 10]) ∧ Below w.heap.size w w' := by
  go_enter Try.func101, Try.ntmps101
  go_wp2_with fail
  go_step3
  go_wp2_with fail
  go_loop [6, 11] (fun e i => e = .int .i64 10 ∧ i = .int .i64 0) (fun _ _ => 0)
  case atStart => exact ⟨rfl, rfl⟩
  case round =>
    obtain ⟨rfl, rfl⟩ := hrel
    go_wp2_with fail
    go_step3
    go_wp2_with fail
    (try rw [Exit.noGoto_ret])
    go_ret3
    exact ⟨rfl, Below.refl _ _⟩
theorem readShort_any (v : Value) (l : List UInt8) (w : World) (h : Reads w v l) :
    Calls Try.prog 101 #[v] w fun e w' => e = .returned (.tuple #[.int .u64 (rsF l 0 0).1, .int .i64 (rsF l 0 0).2.1, .int .i64 (rsF l 0 0).2.2]) ∧ Below w.heap.size w w' := by
  rcases h with ⟨rfl, a, cap, rfl, _⟩ | ⟨b, off, cap, rfl, h2, h3, h4, h5, h6⟩
  · exact readShort_none a cap w
  · exact readShort_some b off cap l h2 w h6
end Go.Proofs.Ytlpjdfgknmfmnaa

/- Short numbers: what is written is read, and what is read is written so. -/
namespace Go.Proofs.Ytlpjdfgknmfmnaa
open Go.RowKit

theorem u8_of {x : UInt8} {n : Nat} (h : x.toNat = n) : UInt8.ofNat n = x := by rw [← h]; exact UInt8.ofNat_toNat ..
/-- What ReadShort reads, written again, stands there. -/
theorem rsF_ok (l : List UInt8) : ∀ i v V N, rsF l i v = (V, N, 0) → i ≤ 9 → v < 128 ^ i →
    ∃ u c, N = i + c ∧ 1 ≤ c ∧ c ≤ l.length ∧ V = v + 128 ^ i * u ∧ sh u = l.take c ∧ (0 < i → 0 < u) ∧ V < 18446744073709551616 := by
  induction l with
  | nil => intro i v V N h _ _; simp [rsF] at h
  | cons x l ih =>
    intro i v V N h hi hv
    rw [rsF_cons] at h
    have hx : x.toNat < 256 := UInt8.toNat_lt x
    by_cases h9 : i = 9 ∧ 1 < x.toNat
    · rw [if_pos h9] at h; simp at h
    · rw [if_neg h9] at h
      by_cases h128 : 128 ≤ x.toNat
      · rw [if_pos h128] at h
        have hi8 : i ≤ 8 := by omega
        have hp : 128 ^ (i + 1) = 128 * 128 ^ i := by rw [Nat.pow_succ, Nat.mul_comm]
        obtain ⟨u, c, h1, h2, h3, h4, h5, h6, h7⟩ := ih (i + 1) _ V N h (by omega) (by
          have h2 : x.toNat % 128 * 128 ^ i ≤ 127 * 128 ^ i := Nat.mul_le_mul_right _ (by omega)
          generalize 128 ^ i = q at *
          omega)
        have hu := h6 (by omega)
        refine ⟨x.toNat % 128 + 128 * u, c + 1, by omega, by omega, by simp; omega, ?_, ?_, fun _ => by omega, h7⟩
        · rw [h4, hp, Nat.mul_add, Nat.mul_comm (x.toNat % 128)]
          have : 128 ^ i * (128 * u) = 128 * 128 ^ i * u := by rw [← Nat.mul_assoc, Nat.mul_comm (128 ^ i) 128]
          omega
        · rw [sh_hi (by omega), List.take_succ_cons]
          have e1 : (x.toNat % 128 + 128 * u) % 128 + 128 = x.toNat := by omega
          have e2 : (x.toNat % 128 + 128 * u) / 128 = u := by omega
          rw [e1, e2, h5, u8_of rfl]
      · rw [if_neg h128] at h
        by_cases h00 : x.toNat = 0 ∧ 0 < i
        · rw [if_pos h00] at h; simp at h
        · rw [if_neg h00] at h
          simp only [Prod.mk.injEq] at h
          obtain ⟨rfl, rfl, _⟩ := h
          have em : x.toNat % 128 = x.toNat := by omega
          have hf := short_fit x.toNat i hi (by omega) (fun h => by omega)
          have hp := pow128 i hi
          rw [em]
          refine ⟨x.toNat, 1, rfl, by omega, by simp, by rw [Nat.mul_comm], ?_, fun h => by omega, by omega⟩
          rw [sh_lo (by omega), u8_of rfl]; rfl
theorem rsF_sh (u : Nat) : ∀ (m : List UInt8) i v, v < 128 ^ i → v + 128 ^ i * u < 18446744073709551616 → (0 < i → 0 < u) → rsF (sh u ++ m) i v = (v + 128 ^ i * u, i + (sh u).length, 0) := by
  induction u using Nat.strongRecOn with
  | _ u ih =>
    intro m i v hv hlt hpos
    have f : ∀ k : Nat, k < 256 → (UInt8.ofNat k).toNat = k := fun k hk => by simp [UInt8.toNat_ofNat']; omega
    by_cases h : u < 128
    · rw [sh_lo h]
      show rsF (UInt8.ofNat u :: m) i v = _
      rw [rsF_cons, f u (by omega)]
      have h9 : ¬ (i = 9 ∧ 1 < u) := by
        rintro ⟨rfl, h1⟩
        have h2 : 128 ^ 9 * 2 ≤ 128 ^ 9 * u := Nat.mul_le_mul_left _ h1
        have e : (128 : Nat) ^ 9 * 2 = 18446744073709551616 := by decide
        omega
      rw [if_neg h9, if_neg (by omega), if_neg (by omega), Nat.mod_eq_of_lt h, Nat.mul_comm u]
      rfl
    · rw [sh_hi h]
      show rsF (UInt8.ofNat (u % 128 + 128) :: (sh (u / 128) ++ m)) i v = _
      rw [rsF_cons, f _ (by omega)]
      have hp : 128 ^ (i + 1) = 128 * 128 ^ i := by rw [Nat.pow_succ, Nat.mul_comm]
      have h9 : ¬ (i = 9 ∧ 1 < u % 128 + 128) := by
        rintro ⟨rfl, _⟩
        have h2 : 128 ^ 9 * 128 ≤ 128 ^ 9 * u := Nat.mul_le_mul_left _ (by omega)
        have e : (128 : Nat) ^ 9 * 2 = 18446744073709551616 := by decide
        omega
      have em : (u % 128 + 128) % 128 = u % 128 := by omega
      rw [if_neg h9, if_pos (by omega), em]
      have hsum : v + u % 128 * 128 ^ i + 128 ^ (i + 1) * (u / 128) = v + 128 ^ i * u := by
        have e1 : u = u % 128 + 128 * (u / 128) := by omega
        have e2 : 128 ^ i * u = 128 ^ i * (u % 128) + 128 ^ i * (128 * (u / 128)) := by rw [← Nat.mul_add, ← e1]
        have e3 : 128 ^ (i + 1) * (u / 128) = 128 ^ i * (128 * (u / 128)) := by rw [Nat.pow_succ, Nat.mul_assoc]
        rw [e2, e3, Nat.mul_comm (u % 128)]; omega
      have h1 : u % 128 * 128 ^ i ≤ 127 * 128 ^ i := Nat.mul_le_mul_right _ (by omega)
      rw [ih (u / 128) (by omega) m (i + 1) (v + u % 128 * 128 ^ i) (by rw [hp]; generalize 128 ^ i = q at *; omega) (by rw [hsum]; exact hlt) (fun _ => by omega), hsum]
      simp; omega
end Go.Proofs.Ytlpjdfgknmfmnaa

/- The order of bytes, and lists of entries in that order. -/
namespace Go.Proofs.Ytlpjdfgknmfmnaa
open Go.Lib

abbrev Ks := List UInt8
/-- Bytes stand ahead of others. -/
def ltK (a b : Ks) : Prop := compareBytes a b = -1
instance (a b : Ks) : Decidable (ltK a b) := inferInstanceAs (Decidable (_ = _))
theorem cmp_three : ∀ a b : Ks, compareBytes a b = -1 ∨ compareBytes a b = 0 ∨ compareBytes a b = 1
  | [], [] => by simp [compareBytes]
  | [], _ :: _ => by simp [compareBytes]
  | _ :: _, [] => by simp [compareBytes]
  | a :: l1, b :: l2 => by
    unfold compareBytes
    split
    · simp
    · split
      · simp
      · exact cmp_three l1 l2
theorem u8_tri {a b : UInt8} (h1 : ¬ a < b) (h2 : ¬ b < a) : a = b := by
  apply UInt8.toNat.inj
  have h1' : ¬ a.toNat < b.toNat := h1
  have h2' : ¬ b.toNat < a.toNat := h2
  omega
theorem cmp_refl : ∀ a : Ks, compareBytes a a = 0
  | [] => rfl
  | a :: l1 => by
    unfold compareBytes
    have h : ¬ a < a := fun h => Nat.lt_irrefl _ (show a.toNat < a.toNat from h)
    rw [if_neg h, if_neg h]; exact cmp_refl l1
theorem cmp_zero : ∀ {a b : Ks}, compareBytes a b = 0 → a = b
  | [], [], _ => rfl
  | [], _ :: _, h => by simp [compareBytes] at h
  | _ :: _, [], h => by simp [compareBytes] at h
  | a :: l1, b :: l2, h => by
    unfold compareBytes at h
    by_cases h1 : a < b
    · rw [if_pos h1] at h; simp at h
    · rw [if_neg h1] at h
      by_cases h2 : b < a
      · rw [if_pos h2] at h; simp at h
      · rw [if_neg h2] at h
        rw [u8_tri h1 h2, cmp_zero h]
theorem cmp_swap : ∀ a b : Ks, compareBytes b a = - compareBytes a b
  | [], [] => rfl
  | [], _ :: _ => rfl
  | _ :: _, [] => rfl
  | a :: l1, b :: l2 => by
    unfold compareBytes
    by_cases h1 : a < b
    · have h2 : ¬ b < a := fun h => by have h1' : a.toNat < b.toNat := h1; have h' : b.toNat < a.toNat := h; omega
      rw [if_pos h1, if_neg h2, if_pos h1]; rfl
    · by_cases h2 : b < a
      · rw [if_pos h2, if_neg h1, if_pos h2]
      · rw [if_neg h1, if_neg h2, if_neg h2, if_neg h1]; exact cmp_swap l1 l2
theorem ltK_trans : ∀ {a b c : Ks}, ltK a b → ltK b c → ltK a c
  | [], [], _, h, _ => by simp [ltK, compareBytes] at h
  | [], _ :: _, [], _, h => by simp [ltK, compareBytes] at h
  | [], _ :: _, _ :: _, _, _ => by simp [ltK, compareBytes]
  | _ :: _, [], _, h, _ => by simp [ltK, compareBytes] at h
  | _ :: _, _ :: _, [], _, h => by simp [ltK, compareBytes] at h
  | a :: l1, b :: l2, c :: l3, h1, h2 => by
    unfold ltK compareBytes at h1 h2 ⊢
    by_cases p1 : a < b
    · by_cases q1 : b < c
      · have : a < c := by have p' : a.toNat < b.toNat := p1; have q' : b.toNat < c.toNat := q1; exact (show a.toNat < c.toNat by omega)
        rw [if_pos this]
      · rw [if_neg q1] at h2
        by_cases q2 : c < b
        · rw [if_pos q2] at h2; simp at h2
        · have : b = c := u8_tri q1 q2
          subst this
          rw [if_pos p1]
    · rw [if_neg p1] at h1
      by_cases p2 : b < a
      · rw [if_pos p2] at h1; simp at h1
      · have : a = b := u8_tri p1 p2
        subst this
        rw [if_neg p2] at h1
        by_cases q1 : a < c
        · rw [if_pos q1]
        · rw [if_neg q1] at h2 ⊢
          by_cases q2 : c < a
          · rw [if_pos q2] at h2; simp at h2
          · rw [if_neg q2] at h2 ⊢
            exact ltK_trans h1 h2
theorem ltK_irrefl (a : Ks) : ¬ ltK a a := by unfold ltK; rw [cmp_refl]; decide
theorem ltK_asymm {a b : Ks} (h : ltK a b) : ¬ ltK b a := fun h2 => ltK_irrefl _ (ltK_trans h h2)
theorem ltK_tri (a b : Ks) : ltK a b ∨ a = b ∨ ltK b a := by
  rcases cmp_three a b with h | h | h
  · exact .inl h
  · exact .inr (.inl (cmp_zero h))
  · right; right; unfold ltK; rw [cmp_swap a b, h]
theorem cmp_ge {a b : Ks} : (0 ≤ compareBytes a b) ↔ ¬ ltK a b := by
  unfold ltK; rcases cmp_three a b with h | h | h <;> rw [h] <;> decide

end Go.Proofs.Ytlpjdfgknmfmnaa
