/- C1 C2 SHp BK1, joined. -/
import Derived.Test.YtopemhlkjicjpaaTG1
import Derived.Test.YtopemhlkjicjpaaTG3
import Derived.Laws.BitsAllLaws
import Derived.ScopeJumps
/- The contract of code.Short: a number, short. -/
namespace Go.Proofs.Ytopemhlkjicjpaa
open Go.RowKit

/-- A number's bytes, short. -/
def sh (n : Nat) : List UInt8 := if n < 128 then [UInt8.ofNat n] else UInt8.ofNat (n % 128 + 128) :: sh (n / 128)
termination_by n
decreasing_by omega
theorem sh_lo {n : Nat} (h : n < 128) : sh n = [UInt8.ofNat n] := by rw [sh]; simp [h]
theorem sh_hi {n : Nat} (h : ¬ n < 128) : sh n = UInt8.ofNat (n % 128 + 128) :: sh (n / 128) := by rw [sh]; simp [h]
theorem bc_of {n : Nat} (h : n < 256) : bc (UInt8.ofNat n) = .int .u8 (n : Int) := by
  unfold bc
  have : (UInt8.ofNat n).toNat = n := by simp [UInt8.toNat_ofNat']; omega
  rw [this]
theorem sh_len (k : Nat) : ∀ n, n < 128 ^ (k + 1) → (sh n).length ≤ k + 1 := by
  induction k with
  | zero => intro n hn; rw [sh_lo (by simpa using hn)]; simp
  | succ k ih =>
    intro n hn
    by_cases h : n < 128
    · rw [sh_lo h]; simp
    · rw [sh_hi h]
      have := ih (n / 128) (by rw [Nat.div_lt_iff_lt_mul (by omega)]; rw [Nat.pow_succ] at hn; exact hn)
      simp; omega
theorem sh_len10 {n : Nat} (h : n < 18446744073709551616) : (sh n).length ≤ 10 := sh_len 9 n (Nat.lt_of_lt_of_le h (by decide))
theorem sh_pos (n : Nat) : 0 < (sh n).length := by
  by_cases h : n < 128
  · rw [sh_lo h]; simp
  · rw [sh_hi h]; simp

set_option maxRecDepth 100000 in
set_option maxHeartbeats 1000000 in
theorem short_any (n : Nat) (hn : n < 18446744073709551616) (w : World) :
    Calls Try.prog 54 #[.int .u64 (n : Int)] w fun e w' => ∃ v, e = .returned v ∧ w'.ownsRow w.heap.size 5 1 v (sh n).length ((sh n).map bc) ∧ Below w.heap.size w w' := by
  obtain ⟨i0, hi, hz0, hz1, hz2⟩ := info_parts info5
  go_enter Try.func54, Try.ntmps54
  go_wp2_with fail
  go_loopw [0, 3] (fun x v wr => ∃ (m : Nat) (L : List UInt8), m < 18446744073709551616 ∧ x = .int .u64 (m : Int) ∧ sh n = L ++ sh m ∧ wr.ownsRow w.heap.size 5 1 v L.length (L.map bc) ∧ Below w.heap.size w wr) (fun x _ _ => (intOf x).toNat)
  case atStart => exact ⟨n, [], hn, rfl, rfl, World.ownsRow_nil _ _ _ _, Below.refl _ _⟩
  case round =>
    obtain ⟨m, L, hm, rfl, hL, hown, hbr⟩ := hrel
    have hsz := hbr.size
    have hlen := sh_len10 hn
    rw [hL, List.length_append] at hlen
    have hpos := sh_pos m
    by_cases hlt : m < 128
    · have hlti : (m : Int) < 128 := by omega
      have HO0 : Hid _ := hL
      clear hL
      go_wp2_with (at_builtin; refine wpList_append_own _ rfl _ _ 23 rfl w.heap.size 5 i0 (.int .u8 0) 1 1 Try.underlying23 hi hz0 hz1 hz2 rfl (by decide) _ _ _ rfl (hown.alloc _) ⟨wr.heap.size, 0, none⟩ 1 1 [.int .u8 (m : Int)] rfl rfl news1 one1 (len_ok (by omega)).1 (len_ok (by omega)).2 (al_ok hsz) ?_)
      intro v' w1 hown' hgrow _
      have HO2 : Hid (w1.ownsRow w.heap.size 5 1 v' (sh n).length ((sh n).map bc)) := by
        have e : (sh n).length = L.length + 1 := by rw [HO0.out, sh_lo hlt]; simp
        rw [e, HO0.out, sh_lo hlt, List.map_append]
        simp only [List.map_cons, List.map_nil]
        rw [bc_of (by omega)]
        exact hown'
      have HB2 : Hid (Below w.heap.size w w1) := (hbr.alloc hbr.size _).grown hgrow (by have := hbr.size; simp; omega) (own_block hown)
      clear hown hown' hgrow hbr
      go_wp2_with fail
      go_ret
      exact ⟨_, rfl, HO2.out, HB2.out⟩
    · have hlti : ¬ (m : Int) < 128 := by omega
      have HO0 : Hid _ := hL
      clear hL
      go_wp2_with (at_builtin; refine wpList_append_own _ rfl _ _ 23 rfl w.heap.size 5 i0 (.int .u8 0) 1 1 Try.underlying23 hi hz0 hz1 hz2 rfl (by decide) _ _ _ rfl (hown.alloc _) ⟨wr.heap.size, 0, none⟩ 1 1 [.int .u8 ((m : Int) % 128 + 128)] rfl rfl news1 one1 (len_ok (by omega)).1 (len_ok (by omega)).2 (al_ok hsz) ?_)
      intro v' w1 hown' hgrow _
      have hp2 : (sh m).length = (sh (m / 128)).length + 1 := by rw [sh_hi hlt]; simp
      have HO2 : Hid (w1.ownsRow w.heap.size 5 1 v' (L ++ [UInt8.ofNat (m % 128 + 128)]).length ((L ++ [UInt8.ofNat (m % 128 + 128)]).map bc)) := by
        rw [List.map_append, List.length_append]
        simp only [List.map_cons, List.map_nil]
        rw [bc_of (by omega)]
        have e : ((m % 128 + 128 : Nat) : Int) = (m : Int) % 128 + 128 := by omega
        rw [e]
        exact hown'
      have HB2 : Hid (Below w.heap.size w w1) := (hbr.alloc hbr.size _).grown hgrow (by have := hbr.size; simp; omega) (own_block hown)
      have HE : Hid (sh n = (L ++ [UInt8.ofNat (m % 128 + 128)]) ++ sh (m / 128)) := by unfold Hid; rw [HO0.out, sh_hi hlt]; simp
      clear hown hown' hgrow hbr HO0
      go_wp2_with fail
      go_roundw
      case rel => exact ⟨m / 128, L ++ [UInt8.ofNat (m % 128 + 128)], by omega, by go_num, HE.out, HO2.out, HB2.out⟩
      case measure => simp [intOf]; omega
end Go.Proofs.Ytopemhlkjicjpaa

/- The contract of code.ReadShort. -/
namespace Go.Proofs.Ytopemhlkjicjpaa
open Go.RowKit

/-- What ReadShort tells of bytes, of which i were read, and made v. -/
def rsF : List UInt8 → Nat → Nat → Nat × Nat × Int
  | [], _, _ => (0, 0, 10)
  | x :: l, i, v =>
    if i = 9 ∧ 1 < x.toNat then (0, 0, 11)
    else if 128 ≤ x.toNat then rsF l (i + 1) (v + x.toNat % 128 * 128 ^ i)
    else if x.toNat = 0 ∧ 0 < i then (0, 0, 3) else (v + x.toNat % 128 * 128 ^ i, i + 1, 0)

/-- What holds at each jump to the fault. -/
def JRs (l : List UInt8) (w : World) (a' : Act) (w' : World) : Prop := w' = w ∧ ∃ (u0 u1 u2 u3 u4 u5 u7 u8 u9 u10 u11 u12 u13 u14 u15 u16 u17 u18 u19 u20 u21 u22 u23 u24 u25 u26 u27 u28 u29 u30 u31 u32 u33 u34 u35 u36 u37 u38 u39 u40 u41 u42 : Value), a' = { tmps := #[u0, u1, u2, u3, u4, u5, .int .i64 (rsF l 0 0).2.2, u7, u8, u9, u10, u11, u12, u13, u14, u15, u16, u17, u18, u19, u20, u21, u22, u23, u24, u25, u26, u27, u28, u29, u30, u31, u32, u33, u34, u35, u36, u37, u38, u39, u40, u41, u42], defers := [] } ∧ (rsF l 0 0).1 = 0 ∧ (rsF l 0 0).2.1 = 0
theorem JRs_of {l : List UInt8} {w : World} {E : Int} {u0 u1 u2 u3 u4 u5 u7 u8 u9 u10 u11 u12 u13 u14 u15 u16 u17 u18 u19 u20 u21 u22 u23 u24 u25 u26 u27 u28 u29 u30 u31 u32 u33 u34 u35 u36 u37 u38 u39 u40 u41 u42 : Value} (h : rsF l 0 0 = (0, 0, E)) : JRs l w { tmps := #[u0, u1, u2, u3, u4, u5, .int .i64 E, u7, u8, u9, u10, u11, u12, u13, u14, u15, u16, u17, u18, u19, u20, u21, u22, u23, u24, u25, u26, u27, u28, u29, u30, u31, u32, u33, u34, u35, u36, u37, u38, u39, u40, u41, u42], defers := [] } w := by
  refine ⟨rfl, u0, u1, u2, u3, u4, u5, u7, u8, u9, u10, u11, u12, u13, u14, u15, u16, u17, u18, u19, u20, u21, u22, u23, u24, u25, u26, u27, u28, u29, u30, u31, u32, u33, u34, u35, u36, u37, u38, u39, u40, u41, u42, ?_, by rw [h], by rw [h]⟩
  rw [h]
theorem jump_ret {l : Nat} {J : Act → World → Prop} {Q : Exit → Act → World → Prop} {a : Act} {w : World} : Exit.jump l J Q .ret a w = Q .ret a w := rfl
theorem rsF_cons (x : UInt8) (l : List UInt8) (i v : Nat) : rsF (x :: l) i v = if i = 9 ∧ 1 < x.toNat then (0, 0, 11) else if 128 ≤ x.toNat then rsF l (i + 1) (v + x.toNat % 128 * 128 ^ i) else if x.toNat = 0 ∧ 0 < i then (0, 0, 3) else (v + x.toNat % 128 * 128 ^ i, i + 1, 0) := rfl
theorem pow128 (k : Nat) (hk : k ≤ 9) : 128 ^ k ≤ 9223372036854775808 := by
  have : 128 ^ k ≤ 128 ^ 9 := Nat.pow_le_pow_right (by omega) hk
  exact Nat.le_trans this (by decide)
theorem pow2_128 (k : Nat) : (2 : Nat) ^ (7 * k) = 128 ^ k := by rw [Nat.pow_mul]
theorem short_fit (z k : Nat) (hk : k ≤ 9) (hz : z < 128) (h9 : k = 9 → z ≤ 1) : z * 128 ^ k ≤ 9223372036854775808 := by
  by_cases h : k = 9
  · subst h
    have := h9 rfl
    have : z * 128 ^ 9 ≤ 1 * 128 ^ 9 := Nat.mul_le_mul_right _ this
    exact Nat.le_trans this (by decide)
  · have h1 : z * 128 ^ k ≤ 128 * 128 ^ k := Nat.mul_le_mul_right _ (by omega)
    have h2 : 128 * 128 ^ k = 128 ^ (k + 1) := by rw [Nat.pow_succ, Nat.mul_comm]
    rw [h2] at h1
    exact Nat.le_trans h1 (pow128 (k + 1) (by omega))
theorem or_short (v y k : Nat) (hk : k ≤ 9) (hv : v < 128 ^ k) (h9 : k = 9 → y % 128 ≤ 1) : bits .or .u64 (v : Int) (IntKind.u64.wrap ((y : Int) % 128 * 2 ^ (7 * k))) = ((v + y % 128 * 128 ^ k : Nat) : Int) := by
  have hf := short_fit (y % 128) k hk (by omega) h9
  have hp := pow128 k hk
  have e : (y : Int) % 128 * 2 ^ (7 * k) = ((y % 128 * 128 ^ k : Nat) : Int) := by
    rw [← pow2_128]; push_cast; rfl
  rw [e, IntKind.wrap_u64]
  have e2 : ((y % 128 * 128 ^ k : Nat) : Int) % 18446744073709551616 = ((y % 128 * 128 ^ k : Nat) : Int) := by omega
  rw [e2, bits_or_u64_nat _ _ (by omega) (by omega), Nat.or_comm, nat_join (7 * k) _ _ (by rw [pow2_128]; exact Nat.mul_mod_left _ _) (by rw [pow2_128]; exact hv), Nat.add_comm]

set_option maxRecDepth 100000 in
set_option maxHeartbeats 1000000 in
theorem readShort_some (b off cap : Nat) (l : List UInt8) (h0 : 0 < l.length) (w : World) (hc : ∀ j (h : j < l.length), w.cell? ⟨b, off + j, none⟩ = some (bc l[j])) :
    Calls Try.prog 82 #[.slice (some ⟨b, off, none⟩) l.length cap] w fun e w' => e = .returned (.tuple #[.int .u64 (rsF l 0 0).1, .int .i64 (rsF l 0 0).2.1, .int .i64 (rsF l 0 0).2.2]) ∧ Below w.heap.size w w' := by
  go_enter Try.func82, Try.ntmps82
  go_wp2_with fail
  refine wp_scope_jumps 0 (JRs l w) (fun _ _ => 0) rfl ?_ ?_
  · go_wp2_with fail
    go_loop [5, 6, 11] (fun x e i => ∃ k v : Nat, k ≤ l.length ∧ e = .int .i64 10 ∧ k ≤ 9 ∧ v < 128 ^ k ∧ i = .int .i64 (k : Int) ∧ x = .int .u64 (v : Int) ∧ rsF (l.drop k) k v = rsF l 0 0) (fun _ _ i => l.length - (intOf i).toNat)
    case atStart => exact ⟨0, 0, by omega, rfl, by omega, by decide, rfl, rfl, rfl⟩
    case round =>
      obtain ⟨k, v, hk, rfl, hk9, hv, rfl, rfl, hF⟩ := hrel
      by_cases hlt : k < l.length
      · have hcell := hc k hlt
        have hki : (k : Int) < (l.length : Int) := by omega
        rw [List.drop_eq_getElem_cons hlt, rsF_cons] at hF
        generalize l[k] = x at *
        have hx : x.toNat < 256 := UInt8.toNat_lt x
        unfold bc at hcell
        generalize x.toNat = y at *
        clear hc
        by_cases h9 : k = 9 ∧ 1 < y
        · rw [if_pos h9] at hF
          have HF : Hid _ := hF.symm
          have i1 : ((k : Int) == 9) = true := by simp; omega
          have i2 : 1 < (y : Int) := by omega
          clear hF h9
          go_wp2_with fail
          go_step3
          exact And.intro (a := 0 = 0) rfl (JRs_of HF.out)
        · rw [if_neg h9] at hF
          have HOR : Hid _ := or_short v y k hk9 hv (fun h => by omega)
          by_cases h128 : 128 ≤ y
          · rw [if_pos h128] at hF
            have HF : Hid _ := hF
            have i1 : (128 : Int) ≤ (y : Int) := by omega
            have i3 : ((k : Int) == 9) = false := by simp; omega
            have hk8 : k ≤ 8 := by omega
            have hv2 : v + y % 128 * 128 ^ k < 128 ^ (k + 1) := by
              have h2 : y % 128 * 128 ^ k ≤ 127 * 128 ^ k := Nat.mul_le_mul_right _ (by omega)
              have h3 : 128 ^ (k + 1) = 128 * 128 ^ k := by rw [Nat.pow_succ, Nat.mul_comm]
              generalize 128 ^ k = q at *
              omega
            clear hF h9 h128
            go_wp2_with fail
            rw [HOR.out]
            go_round
            case rel => exact ⟨k + 1, _, by omega, rfl, by omega, hv2, by go_num, rfl, HF.out⟩
            case measure => simp [intOf]; omega
          · rw [if_neg h128] at hF
            have i1 : ¬ (128 : Int) ≤ (y : Int) := by omega
            by_cases h00 : y = 0 ∧ 0 < k
            · rw [if_pos h00] at hF
              have HF : Hid _ := hF.symm
              have i2 : ((y : Int) == 0) = true := by simp; omega
              have i4 : (0 : Int) < (k : Int) := by omega
              clear hF h9 h128 h00
              by_cases i5 : k = 9
              · have i3 : ((k : Int) == 9) = true := by simp; omega
                have i6 : ¬ 1 < (y : Int) := by simp at i2; omega
                clear i5
                go_wp2_with fail
                go_step3
                exact And.intro (a := 0 = 0) rfl (JRs_of HF.out)
              · have i3 : ((k : Int) == 9) = false := by simp; omega
                go_wp2_with fail
                go_step3
                exact And.intro (a := 0 = 0) rfl (JRs_of HF.out)
            · rw [if_neg h00] at hF
              have HF : Hid _ := hF.symm
              have i5 : ((k : Int) == 9) = decide (k = 9) := by by_cases h : k = 9 <;> simp [h] <;> omega
              have i6 : ((y : Int) == 0) = decide (y = 0) := by by_cases h : y = 0 <;> simp [h] <;> omega
              by_cases h9b : k = 9
              · have i3 : ((k : Int) == 9) = true := by rw [i5]; simpa using h9b
                have i7 : ¬ 1 < (y : Int) := by omega
                have i8 : ((y : Int) == 0) = false := by rw [i6]; simp; omega
                clear i5 i6 hF h9 h128 h00 h9b
                go_wp2_with fail
                rw [HOR.out, jump_ret]
                go_ret3
                exact ⟨by rw [HF.out]; rfl, Below.refl _ _⟩
              · have i3 : ((k : Int) == 9) = false := by rw [i5]; simpa using h9b
                by_cases hy0 : y = 0
                · have i8 : ((y : Int) == 0) = true := by rw [i6]; simpa using hy0
                  have i9 : ¬ (0 : Int) < (k : Int) := by omega
                  have HY : Hid (y = 0) := hy0
                  clear i5 i6 hF h9 h128 h00 h9b hy0
                  go_wp2_with fail
                  rw [HOR.out, jump_ret]
                  go_ret3
                  exact ⟨by rw [HF.out]; rfl, Below.refl _ _⟩
                · have i8 : ((y : Int) == 0) = false := by rw [i6]; simpa using hy0
                  clear i5 i6 hF h9 h128 h00 h9b hy0
                  go_wp2_with fail
                  rw [HOR.out, jump_ret]
                  go_ret3
                  exact ⟨by rw [HF.out]; rfl, Below.refl _ _⟩
      · have hke : k = l.length := by omega
        subst hke
        rw [List.drop_length] at hF
        have HF : Hid _ := hF.symm
        clear hc hF
        go_wp2_with fail
        go_step3
        go_wp2_with fail
        rw [jump_ret]
        go_ret3
        exact ⟨by rw [HF.out]; rfl, Below.refl _ _⟩
  · rintro a' w' ⟨rfl, u0, u1, u2, u3, u4, u5, u7, u8, u9, u10, u11, u12, u13, u14, u15, u16, u17, u18, u19, u20, u21, u22, u23, u24, u25, u26, u27, u28, u29, u30, u31, u32, u33, u34, u35, u36, u37, u38, u39, u40, u41, u42, rfl, e1, e2⟩
    have E1 : Hid _ := e1
    have E2 : Hid _ := e2
    clear e1 e2
    go_wp2_with fail
    rw [jump_ret]
    go_ret3
    exact ⟨by rw [E1.out, E2.out]; rfl, Below.refl _ _⟩

set_option maxRecDepth 100000 in
set_option maxHeartbeats 1000000 in
theorem readShort_none (a : Option Addr) (cap : Nat) (w : World) :
    Calls Try.prog 82 #[.slice a 0 cap] w fun e w' => e = .returned (.tuple #[.int .u64 0, .int .i64 0, .int .i64 10]) ∧ Below w.heap.size w w' := by
  go_enter Try.func82, Try.ntmps82
  go_wp2_with fail
  go_step3
  go_wp2_with fail
  go_loop [6, 11] (fun e i => e = .int .i64 10 ∧ i = .int .i64 0) (fun _ _ => 0)
  case atStart => exact ⟨rfl, rfl⟩
  case round =>
    obtain ⟨rfl, rfl⟩ := hrel
    go_wp2_with fail
    go_step3
    go_wp2_with fail
    (try rw [Exit.noGoto_ret])
    go_ret3
    exact ⟨rfl, Below.refl _ _⟩
theorem readShort_any (v : Value) (l : List UInt8) (w : World) (h : Reads w v l) :
    Calls Try.prog 82 #[v] w fun e w' => e = .returned (.tuple #[.int .u64 (rsF l 0 0).1, .int .i64 (rsF l 0 0).2.1, .int .i64 (rsF l 0 0).2.2]) ∧ Below w.heap.size w w' := by
  rcases h with ⟨rfl, a, cap, rfl, _⟩ | ⟨b, off, cap, rfl, h2, h3, h4, h5, h6⟩
  · exact readShort_none a cap w
  · exact readShort_some b off cap l h2 w h6
end Go.Proofs.Ytopemhlkjicjpaa

/- Short numbers: what is written is read, and what is read is written so. -/
namespace Go.Proofs.Ytopemhlkjicjpaa
open Go.RowKit

theorem u8_of {x : UInt8} {n : Nat} (h : x.toNat = n) : UInt8.ofNat n = x := by rw [← h]; exact UInt8.ofNat_toNat ..
/-- What ReadShort reads, written again, stands there. -/
theorem rsF_ok (l : List UInt8) : ∀ i v V N, rsF l i v = (V, N, 0) → i ≤ 9 → v < 128 ^ i →
    ∃ u c, N = i + c ∧ 1 ≤ c ∧ c ≤ l.length ∧ V = v + 128 ^ i * u ∧ sh u = l.take c ∧ (0 < i → 0 < u) ∧ V < 18446744073709551616 := by
  induction l with
  | nil => intro i v V N h _ _; simp [rsF] at h
  | cons x l ih =>
    intro i v V N h hi hv
    rw [rsF_cons] at h
    have hx : x.toNat < 256 := UInt8.toNat_lt x
    by_cases h9 : i = 9 ∧ 1 < x.toNat
    · rw [if_pos h9] at h; simp at h
    · rw [if_neg h9] at h
      by_cases h128 : 128 ≤ x.toNat
      · rw [if_pos h128] at h
        have hi8 : i ≤ 8 := by omega
        have hp : 128 ^ (i + 1) = 128 * 128 ^ i := by rw [Nat.pow_succ, Nat.mul_comm]
        obtain ⟨u, c, h1, h2, h3, h4, h5, h6, h7⟩ := ih (i + 1) _ V N h (by omega) (by
          have h2 : x.toNat % 128 * 128 ^ i ≤ 127 * 128 ^ i := Nat.mul_le_mul_right _ (by omega)
          generalize 128 ^ i = q at *
          omega)
        have hu := h6 (by omega)
        refine ⟨x.toNat % 128 + 128 * u, c + 1, by omega, by omega, by simp; omega, ?_, ?_, fun _ => by omega, h7⟩
        · rw [h4, hp, Nat.mul_add, Nat.mul_comm (x.toNat % 128)]
          have : 128 ^ i * (128 * u) = 128 * 128 ^ i * u := by rw [← Nat.mul_assoc, Nat.mul_comm (128 ^ i) 128]
          omega
        · rw [sh_hi (by omega), List.take_succ_cons]
          have e1 : (x.toNat % 128 + 128 * u) % 128 + 128 = x.toNat := by omega
          have e2 : (x.toNat % 128 + 128 * u) / 128 = u := by omega
          rw [e1, e2, h5, u8_of rfl]
      · rw [if_neg h128] at h
        by_cases h00 : x.toNat = 0 ∧ 0 < i
        · rw [if_pos h00] at h; simp at h
        · rw [if_neg h00] at h
          simp only [Prod.mk.injEq] at h
          obtain ⟨rfl, rfl, _⟩ := h
          have em : x.toNat % 128 = x.toNat := by omega
          have hf := short_fit x.toNat i hi (by omega) (fun h => by omega)
          have hp := pow128 i hi
          rw [em]
          refine ⟨x.toNat, 1, rfl, by omega, by simp, by rw [Nat.mul_comm], ?_, fun h => by omega, by omega⟩
          rw [sh_lo (by omega), u8_of rfl]; rfl
theorem rsF_sh (u : Nat) : ∀ (m : List UInt8) i v, v < 128 ^ i → v + 128 ^ i * u < 18446744073709551616 → (0 < i → 0 < u) → rsF (sh u ++ m) i v = (v + 128 ^ i * u, i + (sh u).length, 0) := by
  induction u using Nat.strongRecOn with
  | _ u ih =>
    intro m i v hv hlt hpos
    have f : ∀ k : Nat, k < 256 → (UInt8.ofNat k).toNat = k := fun k hk => by simp [UInt8.toNat_ofNat']; omega
    by_cases h : u < 128
    · rw [sh_lo h]
      show rsF (UInt8.ofNat u :: m) i v = _
      rw [rsF_cons, f u (by omega)]
      have h9 : ¬ (i = 9 ∧ 1 < u) := by
        rintro ⟨rfl, h1⟩
        have h2 : 128 ^ 9 * 2 ≤ 128 ^ 9 * u := Nat.mul_le_mul_left _ h1
        have e : (128 : Nat) ^ 9 * 2 = 18446744073709551616 := by decide
        omega
      rw [if_neg h9, if_neg (by omega), if_neg (by omega), Nat.mod_eq_of_lt h, Nat.mul_comm u]
      rfl
    · rw [sh_hi h]
      show rsF (UInt8.ofNat (u % 128 + 128) :: (sh (u / 128) ++ m)) i v = _
      rw [rsF_cons, f _ (by omega)]
      have hp : 128 ^ (i + 1) = 128 * 128 ^ i := by rw [Nat.pow_succ, Nat.mul_comm]
      have h9 : ¬ (i = 9 ∧ 1 < u % 128 + 128) := by
        rintro ⟨rfl, _⟩
        have h2 : 128 ^ 9 * 128 ≤ 128 ^ 9 * u := Nat.mul_le_mul_left _ (by omega)
        have e : (128 : Nat) ^ 9 * 2 = 18446744073709551616 := by decide
        omega
      have em : (u % 128 + 128) % 128 = u % 128 := by omega
      rw [if_neg h9, if_pos (by omega), em]
      have hsum : v + u % 128 * 128 ^ i + 128 ^ (i + 1) * (u / 128) = v + 128 ^ i * u := by
        have e1 : u = u % 128 + 128 * (u / 128) := by omega
        have e2 : 128 ^ i * u = 128 ^ i * (u % 128) + 128 ^ i * (128 * (u / 128)) := by rw [← Nat.mul_add, ← e1]
        have e3 : 128 ^ (i + 1) * (u / 128) = 128 ^ i * (128 * (u / 128)) := by rw [Nat.pow_succ, Nat.mul_assoc]
        rw [e2, e3, Nat.mul_comm (u % 128)]; omega
      have h1 : u % 128 * 128 ^ i ≤ 127 * 128 ^ i := Nat.mul_le_mul_right _ (by omega)
      rw [ih (u / 128) (by omega) m (i + 1) (v + u % 128 * 128 ^ i) (by rw [hp]; generalize 128 ^ i = q at *; omega) (by rw [hsum]; exact hlt) (fun _ => by omega), hsum]
      simp; omega
end Go.Proofs.Ytopemhlkjicjpaa

/- Rows of pairs as bytes: plain words. -/
namespace Go.Proofs.Ytopemhlkjicjpaa
open Go.RowKit

/-- A key and a value. -/
abbrev Pr := Ks × Ks
/-- How long the front is that both have. -/
def com : Ks → Ks → Nat
  | x :: a, y :: b => if x = y then com a b + 1 else 0
  | _, _ => 0
theorem com_le : ∀ a b : Ks, com a b ≤ a.length ∧ com a b ≤ b.length
  | [], _ => by simp [com]
  | _ :: _, [] => by simp [com]
  | x :: a, y :: b => by have := com_le a b; unfold com; split <;> simp <;> omega
theorem com_take : ∀ a b : Ks, a.take (com a b) = b.take (com a b)
  | [], _ => by simp [com]
  | _ :: _, [] => by simp [com]
  | x :: a, y :: b => by
    unfold com
    split
    · rename_i h; subst h; simp [com_take a b]
    · rfl
/-- The front that both have, by its marks. -/
theorem com_eq {a b : Ks} {n : Nat} (h1 : n ≤ a.length) (h2 : n ≤ b.length) (h : ∀ j (g1 : j < a.length) (g2 : j < b.length), j < n → a[j] = b[j]) (hn : ∀ (g1 : n < a.length) (g2 : n < b.length), a[n] ≠ b[n]) : com a b = n := by
  induction a generalizing b n with
  | nil => simp at h1; subst h1; rfl
  | cons x a ih =>
    cases b with
    | nil => simp at h2; subst h2; rfl
    | cons y b =>
      cases n with
      | zero => rw [com, if_neg (show x ≠ y from hn (by simp) (by simp))]
      | succ n =>
        have h0 := h 0 (by simp) (by simp) (by omega)
        rw [com, if_pos (show x = y from h0), ih (by simpa using h1) (by simpa using h2) (fun j g1 g2 hj => h (j + 1) (by simpa using g1) (by simpa using g2) (by omega)) (fun g1 g2 => hn (by simpa using g1) (by simpa using g2))]
/-- How many of a key's bytes are not written. -/
def svd (i : Nat) (ah k : Ks) : Nat := if i % 8 = 0 then 0 else com ah k
theorem svd_le (i : Nat) (ah k : Ks) : svd i ah k ≤ ah.length ∧ svd i ah k ≤ k.length := by
  unfold svd; split
  · simp
  · exact com_le ah k
theorem svd_take (i : Nat) (ah k : Ks) : ah.take (svd i ah k) = k.take (svd i ah k) := by
  unfold svd; split
  · simp
  · exact com_take ah k
/-- A pair's bytes. -/
def pb (i : Nat) (ah : Ks) (x : Pr) : List UInt8 := sh (svd i ah x.1) ++ (sh (x.1.length - svd i ah x.1) ++ (sh x.2.length ++ (x.1.drop (svd i ah x.1) ++ x.2)))
/-- The bytes of pairs. -/
def wbF : Nat → Ks → List Pr → List UInt8
  | _, _, [] => []
  | i, ah, x :: l => pb i ah x ++ wbF (i + 1) x.1 l
def wb (l : List Pr) : List UInt8 := wbF 0 [] l
/-- Lengths that may be. -/
def okP (x : Pr) : Prop := x.1.length ≤ 4096 ∧ x.2.length ≤ 4096
instance (x : Pr) : Decidable (okP x) := inferInstanceAs (Decidable (_ ∧ _))
/-- Keys rise, behind a key. -/
def rise : Nat → Ks → List Pr → Prop
  | _, _, [] => True
  | i, ah, x :: l => (0 < i → ltK ah x.1) ∧ rise (i + 1) x.1 l
instance : ∀ (i : Nat) (ah : Ks) (l : List Pr), Decidable (rise i ah l)
  | _, _, [] => isTrue trivial
  | i, _, x :: l => @instDecidableAnd _ _ inferInstance (instDecidableRise (i + 1) x.1 l)
/-- What forbids that pairs are a row. -/
def mbF (l : List Pr) : Int := if 4096 < l.length then 2 else if ¬ (∀ x ∈ l, okP x) then 2 else if ¬ rise 0 [] l then 50 else 0
/-- Three short numbers, and how many bytes they take. -/
def th3 (b : List UInt8) : Option (Nat × Nat × Nat × Nat) :=
  let r0 := rsF b 0 0
  if r0.2.2 ≠ 0 ∨ 4096 < r0.1 then none else
  let r1 := rsF (b.drop r0.2.1) 0 0
  if r1.2.2 ≠ 0 ∨ 4096 < r1.1 then none else
  let r2 := rsF (b.drop (r0.2.1 + r1.2.1)) 0 0
  if r2.2.2 ≠ 0 ∨ 4096 < r2.1 then none else some (r0.1, r1.1, r2.1, r0.2.1 + r1.2.1 + r2.2.1)
/-- The pair at the front of bytes, and how many it takes. -/
def nx (b : List UInt8) (i : Nat) (ah : Ks) : Option (Pr × Nat) :=
  match th3 b with
  | none => none
  | some (s, m, v, t) =>
    if ah.length < s ∨ 4096 < s + m ∨ b.length - t < m + v then none
    else if s ≠ svd i ah (ah.take s ++ (b.drop t).take m) ∨ (0 < i ∧ ¬ ltK ah (ah.take s ++ (b.drop t).take m)) then none
    else some ((ah.take s ++ (b.drop t).take m, (b.drop (t + m)).take v), t + m + v)
theorem rs_one {n : Nat} (h : n ≤ 4096) (m : List UInt8) : rsF (sh n ++ m) 0 0 = (n, (sh n).length, 0) := by
  have := rsF_sh n m 0 0 (by simp) (by simp; omega) (fun h => by omega)
  simpa using this
theorem th3_of {s m v : Nat} (h1 : s ≤ 4096) (h2 : m ≤ 4096) (h3 : v ≤ 4096) (r : List UInt8) : th3 (sh s ++ (sh m ++ (sh v ++ r))) = some (s, m, v, (sh s).length + (sh m).length + (sh v).length) := by
  unfold th3
  simp only [rs_one h1]
  rw [if_neg (by simp; omega)]
  have e1 : (sh s ++ (sh m ++ (sh v ++ r))).drop (sh s).length = sh m ++ (sh v ++ r) := by simp
  simp only [e1, rs_one h2]
  rw [if_neg (by simp; omega)]
  have e2 : (sh s ++ (sh m ++ (sh v ++ r))).drop ((sh s).length + (sh m).length) = sh v ++ r := by rw [← List.drop_drop, e1]; simp
  simp only [e2, rs_one h3]
  rw [if_neg (by simp; omega)]
theorem rs_back {b : List UInt8} (h : ¬ ((rsF b 0 0).2.2 ≠ 0 ∨ 4096 < (rsF b 0 0).1)) : (rsF b 0 0).1 ≤ 4096 ∧ 1 ≤ (rsF b 0 0).2.1 ∧ (rsF b 0 0).2.1 ≤ b.length ∧ b.take (rsF b 0 0).2.1 = sh (rsF b 0 0).1 := by
  have h0 : (rsF b 0 0).2.2 = 0 := Classical.byContradiction fun e => h (.inl e)
  obtain ⟨u, c, g1, g2, g3, g4, g5, _, _⟩ := rsF_ok b 0 0 (rsF b 0 0).1 (rsF b 0 0).2.1 (by rw [← h0]) (by omega) (by simp)
  have e1 : (rsF b 0 0).2.1 = c := by omega
  have e2 : (rsF b 0 0).1 = u := by rw [g4]; simp
  rw [e1, e2, g5]
  refine ⟨?_, g2, g3, rfl⟩
  have : ¬ 4096 < (rsF b 0 0).1 := fun e => h (.inr e)
  omega
theorem th3_back {b : List UInt8} {s m v t : Nat} (h : th3 b = some (s, m, v, t)) : s ≤ 4096 ∧ m ≤ 4096 ∧ v ≤ 4096 ∧ 0 < t ∧ t ≤ b.length ∧ t = (sh s).length + (sh m).length + (sh v).length ∧ b.take t = sh s ++ (sh m ++ sh v) := by
  unfold th3 at h
  simp only at h
  by_cases c0 : (rsF b 0 0).2.2 ≠ 0 ∨ 4096 < (rsF b 0 0).1
  · rw [if_pos c0] at h; cases h
  rw [if_neg c0] at h
  obtain ⟨a1, a2, a3, a4⟩ := rs_back c0
  generalize rsF b 0 0 = r0 at *
  by_cases c1 : (rsF (b.drop r0.2.1) 0 0).2.2 ≠ 0 ∨ 4096 < (rsF (b.drop r0.2.1) 0 0).1
  · rw [if_pos c1] at h; cases h
  rw [if_neg c1] at h
  obtain ⟨b1, b2, b3, b4⟩ := rs_back c1
  generalize rsF (b.drop r0.2.1) 0 0 = r1 at *
  by_cases c2 : (rsF (b.drop (r0.2.1 + r1.2.1)) 0 0).2.2 ≠ 0 ∨ 4096 < (rsF (b.drop (r0.2.1 + r1.2.1)) 0 0).1
  · rw [if_pos c2] at h; cases h
  rw [if_neg c2] at h
  obtain ⟨d1, d2, d3, d4⟩ := rs_back c2
  generalize rsF (b.drop (r0.2.1 + r1.2.1)) 0 0 = r2 at *
  simp only [Option.some.injEq, Prod.mk.injEq] at h
  obtain ⟨rfl, rfl, rfl, rfl⟩ := h
  rw [List.length_drop] at b3 d3
  have l0 : (sh r0.1).length = r0.2.1 := by rw [← a4, List.length_take]; omega
  have l1 : (sh r1.1).length = r1.2.1 := by rw [← b4, List.length_take, List.length_drop]; omega
  have l2 : (sh r2.1).length = r2.2.1 := by rw [← d4, List.length_take, List.length_drop]; omega
  refine ⟨a1, b1, d1, by omega, by omega, by omega, ?_⟩
  rw [List.take_add, List.take_add, a4, b4, d4, List.append_assoc]
theorem pb_len (i : Nat) (ah : Ks) (x : Pr) : (pb i ah x).length = (sh (svd i ah x.1)).length + (sh (x.1.length - svd i ah x.1)).length + (sh x.2.length).length + (x.1.length - svd i ah x.1) + x.2.length := by
  unfold pb; simp; omega
/-- What is written is read. -/
theorem nx_pb {i : Nat} {ah : Ks} {x : Pr} (hx : okP x) (hr : 0 < i → ltK ah x.1) (r : List UInt8) : nx (pb i ah x ++ r) i ah = some (x, (pb i ah x).length) := by
  have hs := svd_le i ah x.1
  have ht := svd_take i ah x.1
  have hl := pb_len i ah x
  obtain ⟨h1, h2⟩ := hx
  have e0 : pb i ah x ++ r = sh (svd i ah x.1) ++ (sh (x.1.length - svd i ah x.1) ++ (sh x.2.length ++ (x.1.drop (svd i ah x.1) ++ (x.2 ++ r)))) := by unfold pb; simp
  have e1 : th3 (pb i ah x ++ r) = some (svd i ah x.1, x.1.length - svd i ah x.1, x.2.length, (sh (svd i ah x.1)).length + (sh (x.1.length - svd i ah x.1)).length + (sh x.2.length).length) := by rw [e0]; exact th3_of (by omega) (by omega) h2 _
  unfold nx
  rw [e1]
  dsimp only
  generalize hT : (sh (svd i ah x.1)).length + (sh (x.1.length - svd i ah x.1)).length + (sh x.2.length).length = T at *
  have d0 : (pb i ah x ++ r).drop T = x.1.drop (svd i ah x.1) ++ (x.2 ++ r) := by
    rw [e0, ← hT, ← List.drop_drop, ← List.drop_drop]; simp
  have d1 : ((pb i ah x ++ r).drop T).take (x.1.length - svd i ah x.1) = x.1.drop (svd i ah x.1) := by
    rw [d0, List.take_append_of_le_length (by simp), List.take_of_length_le (by simp)]
  have d2 : ((pb i ah x ++ r).drop (T + (x.1.length - svd i ah x.1))).take x.2.length = x.2 := by
    rw [← List.drop_drop, d0, List.drop_append_of_le_length (by simp), List.drop_of_length_le (by simp)]; simp
  have k : ah.take (svd i ah x.1) ++ ((pb i ah x ++ r).drop T).take (x.1.length - svd i ah x.1) = x.1 := by
    rw [d1, ht, List.take_append_drop]
  rw [if_neg (by rw [List.length_append]; omega), k, d2, if_neg, hl]
  · rintro (h | ⟨h, h'⟩)
    · exact h rfl
    · exact h' (hr h)
/-- What is read was written so. -/
theorem nx_back {b : List UInt8} {i : Nat} {ah : Ks} {x : Pr} {t : Nat} (h : nx b i ah = some (x, t)) : 0 < t ∧ t ≤ b.length ∧ okP x ∧ (0 < i → ltK ah x.1) ∧ b.take t = pb i ah x := by
  unfold nx at h
  cases h3 : th3 b with
  | none => rw [h3] at h; cases h
  | some q =>
    obtain ⟨s, m, v, T⟩ := q
    rw [h3] at h
    dsimp only at h
    obtain ⟨g1, g2, g3, g4, g5, g6, g7⟩ := th3_back h3
    by_cases c0 : ah.length < s ∨ 4096 < s + m ∨ b.length - T < m + v
    · rw [if_pos c0] at h; cases h
    rw [if_neg c0] at h
    obtain ⟨K, hK⟩ : ∃ K, K = ah.take s ++ (b.drop T).take m := ⟨_, rfl⟩
    rw [← hK] at h
    by_cases c1 : s ≠ svd i ah K ∨ (0 < i ∧ ¬ ltK ah K)
    · rw [if_pos c1] at h; cases h
    rw [if_neg c1] at h
    simp only [Option.some.injEq, Prod.mk.injEq] at h
    obtain ⟨rfl, rfl⟩ := h
    have hs : s = svd i ah K := Classical.byContradiction fun e => c1 (.inl e)
    have lA : (ah.take s).length = s := by rw [List.length_take]; omega
    have lM : ((b.drop T).take m).length = m := by rw [List.length_take, List.length_drop]; omega
    have lV : ((b.drop (T + m)).take v).length = v := by rw [List.length_take, List.length_drop]; omega
    have lK : K.length = s + m := by rw [hK, List.length_append, lA, lM]
    refine ⟨by omega, by omega, ⟨by dsimp only; omega, by dsimp only; omega⟩, fun hi => Classical.byContradiction fun e => c1 (.inr ⟨hi, e⟩), ?_⟩
    unfold pb
    dsimp only
    rw [← hs, lV, lK, show s + m - s = m by omega]
    have dK : K.drop s = (b.drop T).take m := by rw [hK, List.drop_append_of_le_length (by omega), List.drop_of_length_le (by omega)]; simp
    rw [dK, List.take_add, List.take_add, g7]
    simp
/-- The pairs at the front of bytes, and what stands behind them. -/
def prF : Nat → Nat → Ks → List UInt8 → List Pr × List UInt8
  | 0, _, _, b => ([], b)
  | n + 1, i, ah, b => match nx b i ah with
    | none => ([], b)
    | some (x, t) => (x :: (prF n (i + 1) x.1 (b.drop t)).1, (prF n (i + 1) x.1 (b.drop t)).2)
theorem nx_nil (i : Nat) (ah : Ks) : nx [] i ah = none := by unfold nx; rfl
/-- What Read tells. -/
def rdB (b : List UInt8) : Option (List Pr) := if (prF 4096 0 [] b).2 = [] then some (prF 4096 0 [] b).1 else none
theorem prF_wb : ∀ (l : List Pr) (n i : Nat) (ah : Ks), l.length ≤ n → (∀ x ∈ l, okP x) → rise i ah l → prF n i ah (wbF i ah l) = (l, [])
  | [], 0, i, ah, _, _, _ => rfl
  | [], n + 1, i, ah, _, _, _ => by unfold prF wbF; rw [nx_nil]
  | x :: l, 0, i, ah, h, _, _ => by simp at h
  | x :: l, n + 1, i, ah, h, ho, hr => by
    have h1 := nx_pb (ho x List.mem_cons_self) hr.1 (wbF (i + 1) x.1 l)
    unfold prF wbF
    rw [h1]
    dsimp only
    rw [List.drop_left, prF_wb l n (i + 1) x.1 (by simpa using h) (fun y hy => ho y (List.mem_cons_of_mem _ hy)) hr.2]
theorem prF_back : ∀ (n i : Nat) (ah : Ks) (b : List UInt8), (prF n i ah b).1.length ≤ n ∧ (∀ x ∈ (prF n i ah b).1, okP x) ∧ rise i ah (prF n i ah b).1 ∧ b = wbF i ah (prF n i ah b).1 ++ (prF n i ah b).2
  | 0, i, ah, b => by simp [prF, rise, wbF]
  | n + 1, i, ah, b => by
    unfold prF
    cases h : nx b i ah with
    | none => simp [rise, wbF]
    | some q =>
      obtain ⟨x, t⟩ := q
      obtain ⟨h1, h2, h3, h4, h5⟩ := nx_back h
      obtain ⟨j1, j2, j3, j4⟩ := prF_back n (i + 1) x.1 (b.drop t)
      dsimp only
      refine ⟨by simpa using j1, ?_, ⟨h4, j3⟩, ?_⟩
      · intro y hy
        rcases List.mem_cons.1 hy with rfl | hy
        · exact h3
        · exact j2 y hy
      · rw [wbF, List.append_assoc, ← j4, ← h5, List.take_append_drop]
theorem mb_zero {l : List Pr} : mbF l = 0 ↔ l.length ≤ 4096 ∧ (∀ x ∈ l, okP x) ∧ rise 0 [] l := by
  unfold mbF
  by_cases h1 : 4096 < l.length
  · rw [if_pos h1]; constructor
    · intro h; simp at h
    · intro h; omega
  rw [if_neg h1]
  by_cases h2 : ∀ x ∈ l, okP x
  · rw [if_neg (fun h => h h2)]
    by_cases h3 : rise 0 [] l
    · rw [if_neg (fun h => h h3)]; exact ⟨fun _ => ⟨by omega, h2, h3⟩, fun _ => rfl⟩
    · rw [if_pos h3]; exact ⟨fun h => by simp at h, fun h => absurd h.2.2 h3⟩
  · rw [if_pos h2]; exact ⟨fun h => by simp at h, fun h => absurd h.2.1 h2⟩
/-- Rows go there and back. -/
theorem rdB_wb {l : List Pr} (h : mbF l = 0) : rdB (wb l) = some l := by
  obtain ⟨h1, h2, h3⟩ := mb_zero.1 h
  unfold rdB wb
  rw [prF_wb l 4096 0 [] h1 h2 h3, if_pos rfl]
theorem rdB_back {b : List UInt8} {l : List Pr} (h : rdB b = some l) : mbF l = 0 ∧ wb l = b := by
  unfold rdB at h
  by_cases h0 : (prF 4096 0 [] b).2 = []
  · rw [if_pos h0] at h
    obtain ⟨h1, h2, h3, h4⟩ := prF_back 4096 0 [] b
    rw [Option.some.inj h] at *
    refine ⟨mb_zero.2 ⟨h1, h2, h3⟩, ?_⟩
    rw [h0, List.append_nil] at h4
    exact h4.symm
  · rw [if_neg h0] at h; cases h
end Go.Proofs.Ytopemhlkjicjpaa
