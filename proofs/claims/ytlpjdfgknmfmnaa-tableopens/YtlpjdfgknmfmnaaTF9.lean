/- B1 V2 B2 B3, joined. -/
import Derived.Test.YtlpjdfgknmfmnaaTF2
import Derived.Test.YtlpjdfgknmfmnaaTF4
import Derived.Test.YtlpjdfgknmfmnaaTF8
import Derived.RangeFuncNested
import Derived.RangeFuncBound
import Derived.RangeFuncCalls
import Derived.Shelf.Abstract
import Derived.Shelf.RegionOpen
import Derived.WalkKit
import Derived.OwnWalkIn
import Derived.TacticsInMore
import Derived.LoopNIn
import Derived.LoopIn
import Derived.RangeFuncBox
import Derived.Maps.AppendAt
import Derived.RegionIn
import Derived.BigRegion
/- A filter's mathematics: places, digits. -/
namespace Go.Proofs.Ytlpjdfgknmfmnaa

/-- What a key's places go on by. -/
def ste (key : List UInt8) : Nat := mor (mor 0 key) [1] ||| 1
/-- A key's i-th place, ahead of the number of digits. -/
def pla (key : List UInt8) (i : Nat) : Nat := (mor 0 key + i * ste key) % 4294967296
/-- A key's places in so many digits. -/
def plc (key : List UInt8) (n h : Nat) : List Nat := (List.range h).map fun i => pla key i % n
theorem ste_lt (key : List UInt8) : ste key < 4294967296 := Nat.or_lt_two_pow (n := 32) (mor_lt _ _) (by decide)
theorem pla_lt (key : List UInt8) (i : Nat) : pla key i < 4294967296 := Nat.mod_lt _ (by decide)
theorem pla_zero (key : List UInt8) : pla key 0 = mor 0 key := by unfold pla; have := mor_lt 0 key; omega
theorem pla_succ (key : List UInt8) (i : Nat) : pla key (i + 1) = (pla key i + ste key) % 4294967296 := by
  unfold pla; rw [Nat.succ_mul]; omega
theorem plc_len (key : List UInt8) (n h : Nat) : (plc key n h).length = h := by simp [plc]
theorem plc_succ (key : List UInt8) (n h : Nat) : plc key n (h + 1) = plc key n h ++ [pla key h % n] := by simp [plc, List.range_succ]
theorem plc_take (key : List UInt8) (n h k : Nat) (hk : k ≤ h) : (plc key n h).take k = plc key n k := by
  unfold plc; rw [← List.map_take, List.take_range, Nat.min_eq_left hk]
theorem plc_lt {key : List UInt8} {n h : Nat} (hn : 0 < n) : ∀ p ∈ plc key n h, p < n := by
  intro p hp
  obtain ⟨i, _, rfl⟩ := List.mem_map.1 hp
  exact Nat.mod_lt _ hn
/-- A digit is made 1. -/
def sb (D : List UInt8) (p : Nat) : List UInt8 := D.modify (p / 8) fun x => x ||| UInt8.ofNat (2 ^ (p % 8))
/-- Is a digit 1? -/
def gb (D : List UInt8) (p : Nat) : Bool := (D.getD (p / 8) 0).toNat.testBit (p % 8)
def adF (D : List UInt8) (ps : List Nat) : List UInt8 := ps.foldl sb D
def myF (D : List UInt8) (ps : List Nat) : Bool := ps.all fun p => gb D p
theorem sb_len (D : List UInt8) (p : Nat) : (sb D p).length = D.length := by simp [sb]
theorem adF_len (ps : List Nat) : ∀ D, (adF D ps).length = D.length := by
  induction ps with
  | nil => intro D; rfl
  | cons p ps ih => intro D; show (adF (sb D p) ps).length = _; rw [ih, sb_len]
theorem adF_snoc (D : List UInt8) (ps : List Nat) (p : Nat) : adF D (ps ++ [p]) = sb (adF D ps) p := by simp [adF]
theorem gb_sb (D : List UInt8) (p q : Nat) (hp : p / 8 < D.length) : gb (sb D p) q = (gb D q || decide (p = q)) := by
  unfold gb sb
  have hp8 : p % 8 < 8 := Nat.mod_lt _ (by decide)
  have hq8 : q % 8 < 8 := Nat.mod_lt _ (by decide)
  by_cases h : p / 8 = q / 8
  · have e1 : (D.modify (p / 8) fun x => x ||| UInt8.ofNat (2 ^ (p % 8))).getD (q / 8) 0 = (D.getD (q / 8) 0) ||| UInt8.ofNat (2 ^ (p % 8)) := by
      rw [← h]
      simp [List.getD, hp]
    rw [e1, UInt8.toNat_or, Nat.testBit_or]
    congr 1
    have hlt : 2 ^ (p % 8) < 256 := by
      have : 2 ^ (p % 8) ≤ 2 ^ 7 := Nat.pow_le_pow_right (by decide) (by omega)
      omega
    rw [UInt8.toNat_ofNat', Nat.mod_eq_of_lt hlt, Nat.testBit_two_pow]
    simp only [decide_eq_decide]
    constructor
    · intro h1; omega
    · intro h1; rw [h1]
  · have e1 : (D.modify (p / 8) fun x => x ||| UInt8.ofNat (2 ^ (p % 8))).getD (q / 8) 0 = (D.getD (q / 8) 0) := by
      simp [List.getD, h]
    rw [e1]
    have : p ≠ q := by intro e; exact h (by rw [e])
    simp [this]
theorem gb_adF (ps : List Nat) : ∀ (D : List UInt8) (q : Nat), (∀ p ∈ ps, p / 8 < D.length) → gb (adF D ps) q = (gb D q || decide (q ∈ ps)) := by
  induction ps with
  | nil => intro D q _; simp [adF]
  | cons p ps ih =>
    intro D q h
    show gb (adF (sb D p) ps) q = _
    rw [ih _ _ (by intro r hr; rw [sb_len]; exact h r (List.mem_cons_of_mem _ hr)), gb_sb _ _ _ (h p (List.mem_cons_self ..))]
    by_cases e : p = q
    · subst e; simp
    · have : q ≠ p := fun h => e h.symm
      simp [e, this]
end Go.Proofs.Ytlpjdfgknmfmnaa

/- The contracts of crc.More and crc.Sum. -/
namespace Go.Proofs.Ytlpjdfgknmfmnaa
open Go.RowKit

theorem x_not {c : Nat} (h : c < 4294967296) : bits .xor .u32 IntKind.u32.max (c : Int) = ((4294967295 - c : Nat) : Int) := by
  have := u32_xor_nat 4294967295 c (by decide) h
  rw [← not32 h] at this
  exact this
theorem x_xor {c d : Nat} (h : c < 4294967296) (hd : d < 4294967296) : bits .xor .u32 (c : Int) (d : Int) = ((c ^^^ d : Nat) : Int) := u32_xor_nat c d h hd
theorem x_and {c : Nat} (h : c < 4294967296) : bits .and .u32 (c : Int) 1 = ((c % 2 : Nat) : Int) := by
  have := u32_and_nat c 1 h (by decide)
  rw [Nat.and_one_is_mod] at this
  exact this
theorem x_turn {c : Nat} (h : c < 4294967296) : bits .xor .u32 ((c : Int) / 2) 2197175160 = ((c / 2 ^^^ 2197175160 : Nat) : Int) := u32_xor_nat (c / 2) 2197175160 (by omega) (by decide)

set_option maxRecDepth 100000 in
set_option maxHeartbeats 1000000 in
theorem more_some (s : Nat) (hs : s < 4294967296) (b off cap : Nat) (l : List UInt8) (hl : l.length ≤ maxLen) (w : World)
    (hc : ∀ j (h : j < l.length), w.cell? ⟨b, off + j, none⟩ = some (bc l[j])) :
    Calls Try.prog 86 #[.int .u32 (s : Int), .slice (some ⟨b, off, none⟩) l.length cap] w fun e w' => e = .returned (.int .u32 (mor s l : Nat)) ∧ w' = w := by
  unfold maxLen at hl
  have x0 := x_not hs
  have HC : Hid (∀ j (h : j < l.length), w.cell? ⟨b, off + j, none⟩ = some (bc l[j])) := hc
  clear hc
  go_enter Try.func86, Try.ntmps86
  go_wp2_with fail
  go_loop [5, 13] (fun r i => ∃ k c : Nat, k ≤ l.length ∧ i = .int .i64 k ∧ c < 4294967296 ∧ r = .int .u32 (c : Int) ∧ Hid (c = reg (4294967295 - s) (l.take k))) (fun _ i => l.length - (intOf i).toNat)
  case atStart => exact ⟨0, _, Nat.zero_le _, rfl, by omega, rfl, rfl⟩
  case round =>
    obtain ⟨k, c, hk, rfl, hcl, rfl, HE⟩ := hrel
    by_cases hlt : k < l.length
    · have hcell := HC.out k hlt
      have hx := x_xor (c := c) (d := l[k].toNat) hcl (by have := l[k].toNat_lt; omega)
      have hxb : l[k].toNat < 256 := l[k].toNat_lt
      unfold bc at hcell
      go_wp2_with fail
      go_loop [5, 21] (fun r i => ∃ m d : Nat, m ≤ 8 ∧ i = .int .i64 m ∧ d < 4294967296 ∧ r = .int .u32 (d : Int) ∧ Hid (d = stps m (c ^^^ l[k].toNat))) (fun _ i => 8 - (intOf i).toNat)
      case atStart => exact ⟨0, _, by omega, rfl, xor_lt32 hcl (by have := l[k].toNat_lt; omega), rfl, rfl⟩
      case round =>
        obtain ⟨m, d, hm, rfl, hd, rfl, HD⟩ := hrel
        by_cases hm8 : m < 8
        · have y0 := x_and hd
          have y1 := x_turn hd
          rcases Nat.mod_two_eq_zero_or_one d with h2 | h2
          · rw [h2] at y0
            have hs2 : stp d = d / 2 := by unfold stp; rw [if_neg (by omega)]
            have HS : Hid (d / 2 = stps (m + 1) (c ^^^ l[k].toNat)) := by unfold Hid; rw [stps_snoc, ← HD.out, hs2]
            clear hs2 h2
            go_wp2_with fail
            go_round
            case rel => exact ⟨m + 1, d / 2, by omega, by go_num, by omega, by go_num, HS⟩
            case measure => simp [intOf]; omega
          · rw [h2] at y0
            have hs2 : stp d = d / 2 ^^^ 2197175160 := by unfold stp; rw [if_pos h2]
            have HS : Hid (d / 2 ^^^ 2197175160 = stps (m + 1) (c ^^^ l[k].toNat)) := by unfold Hid; rw [stps_snoc, ← HD.out, hs2]
            have hlt2 := xor_lt32 (a := d / 2) (b := 2197175160) (by omega) (by omega)
            clear hs2 h2
            go_wp2_with fail
            go_round
            case rel => exact ⟨m + 1, d / 2 ^^^ 2197175160, by omega, by go_num, hlt2, rfl, HS⟩
            case measure => simp [intOf]; omega
        · have HS : Hid (d = reg (4294967295 - s) (l.take (k + 1))) := by
            unfold Hid
            have e8 : m = 8 := by omega
            rw [List.take_succ_eq_append_getElem hlt, reg_snoc, ← HE.out, HD.out, e8]
            rfl
          go_wp2_with fail
          go_round
          case rel => exact ⟨k + 1, d, by omega, by go_num, hd, rfl, HS⟩
          case measure => simp [intOf]; omega
    · have hkl : k = l.length := by omega
      have x1 := x_not hcl
      have HS : Hid (4294967295 - c = mor s l) := by
        unfold Hid mor
        rw [HE.out, hkl, List.take_length]
      clear hkl
      go_wp2_with fail
      go_ret
      exact ⟨by rw [HS.out]; rfl, rfl⟩
theorem more_none (s : Nat) (hs : s < 4294967296) (a : Option Addr) (cap : Nat) (w : World) :
    Calls Try.prog 86 #[.int .u32 (s : Int), .slice a 0 cap] w fun e w' => e = .returned (.int .u32 (mor s [] : Nat)) ∧ w' = w := by
  have x0 := x_not hs
  have x1 := x_not (c := 4294967295 - s) (by omega)
  have HS : Hid (4294967295 - (4294967295 - s) = mor s []) := rfl
  go_enter Try.func86, Try.ntmps86
  go_wp2_with fail
  go_loop [5, 13] (fun r i => i = .int .i64 0 ∧ r = .int .u32 ((4294967295 - s : Nat) : Int)) (fun _ _ => 0)
  case atStart => exact ⟨rfl, rfl⟩
  case round =>
    obtain ⟨rfl, rfl⟩ := hrel
    go_wp2_with fail
    go_ret
    exact ⟨by rw [HS.out]; rfl, rfl⟩
theorem more_any (s : Nat) (hs : s < 4294967296) (v : Value) (l : List UInt8) (w : World) (h : Reads w v l) :
    Calls Try.prog 86 #[.int .u32 (s : Int), v] w fun e w' => e = .returned (.int .u32 (mor s l : Nat)) ∧ w' = w := by
  rcases h with ⟨rfl, a, cap, rfl, _⟩ | ⟨b, off, cap, rfl, h2, h3, h4, h5, h6⟩
  · exact more_none s hs a cap w
  · exact more_some s hs b off cap l (by omega) w h6
theorem sum_any (v : Value) (l : List UInt8) (w : World) (h : Reads w v l) :
    Calls Try.prog 56 #[v] w fun e w' => e = .returned (.int .u32 (mor 0 l : Nat)) ∧ w' = w := by
  obtain ⟨a, cap, rfl, _⟩ := h.form
  go_enter Try.func56, Try.ntmps56
  go_wp2_with fail
  refine (more_any 0 (by decide) _ l _ h).mono ?_
  rintro e w' ⟨rfl, hw⟩
  subst w'
  clear h
  go_wp2_with fail
  go_ret
  exact ⟨rfl, rfl⟩
end Go.Proofs.Ytlpjdfgknmfmnaa

/- The contract of the filter's places: what the function that is ranged over hands over. -/
namespace Go.Proofs.Ytlpjdfgknmfmnaa
open Go.RowKit Go.Shelf
attribute [local go_sem] Oper.semAt_some

def encP (x : Nat) : Array Value := #[.int .u32 (x : Int)]
def PreP_B (key : List UInt8) (n h : Nat) (pre : List Nat) (x : Nat) (_ : World) : Prop := pre = plc key n pre.length ∧ x = pla key pre.length % n ∧ pre.length < h
theorem cell_al_B {W : World} {o : Obj} {a : Addr} {v : Value} (h : W.cell? a = some v) : (W.alloc o).cell? a = some v := by
  obtain ⟨ob, hb, _⟩ := cells_of_cell h
  have hl := (Array.getElem?_eq_some_iff.1 hb).1
  exact (((Below.refl W.heap.size W).alloc (Nat.le_refl _) o).cell hl).trans h
set_option maxRecDepth 100000 in
set_option maxHeartbeats 2000000 in
theorem places1_in (n : Nat) (_hn : 1 ≤ n) (l Bf Bk B h : Nat) (v kv : Value) (D key : List UInt8) (hD0 : 0 < D.length) (hD1 : D.length ≤ 8192) (hh : h ≤ 8) (n₀ : Nat) (J Jx : List Nat → World → Prop) (W : World) (hn0 : n₀ ≤ W.heap.size)
    (hJ : ∀ pre A B, J pre A → Below A.heap.size A B → J pre B)
    (hY : ∀ pre x W1, J pre W1 → PreP_B key (8 * D.length) h pre x W1 → n₀ ≤ W1.heap.size → YieldAt Fence.wide (n - 1) Try.prog l (encP x) W1 fun e W' => (e = .returned (.bool true) ∧ J (pre ++ [x]) W' ∧ Below n₀ W1 W') ∨ (e = .returned (.bool false) ∧ Jx (pre ++ [x]) W'))
    (hBf : W.cell? ⟨Bf, 0, none⟩ = some (.pointer (some ⟨B, 0, none⟩))) (hBk : W.cell? ⟨Bk, 0, none⟩ = some kv) (hB0 : W.cell? ⟨B, 0, none⟩ = some (.int .i64 (h : Int))) (hB1 : W.cell? ⟨B, 1, none⟩ = some v) (hO : Reads W v D) (hR : Reads W kv key) (h0 : J [] W) :
    CallsIn Fence.wide n Try.prog 98 #[.func (.yield l) #[] #[], .pointer (some ⟨Bf, 0, none⟩), .pointer (some ⟨Bk, 0, none⟩)] W fun e W' => (∃ v, e = .returned v) ∧ (J (plc key (8 * D.length) h) W' ∨ ∃ xs, (∃ k, k ≤ h ∧ xs = plc key (8 * D.length) k) ∧ Jx xs W') := by
  refine callsIn_of_wp Try.func98 rfl trivial ?_ rfl
  simp only [Try.ntmps98, List.size_toArray, List.length_cons, List.length_nil, Nat.reduceAdd, Nat.reduceSub, Array.replicate_succ, Array.replicate_zero, List.push_toArray, List.append_toArray, List.nil_append, List.cons_append]
  obtain ⟨a, cap, rfl, _⟩ := hO.form
  obtain ⟨ak, capk, rfl, _⟩ := hR.form
  have HJ : Hid (∀ pre A B, J pre A → Below A.heap.size A B → J pre B) := hJ
  have HY : Hid (∀ pre x W1, J pre W1 → PreP_B key (8 * D.length) h pre x W1 → n₀ ≤ W1.heap.size → YieldAt Fence.wide (n - 1) Try.prog l (encP x) W1 fun e W' => (e = .returned (.bool true) ∧ J (pre ++ [x]) W' ∧ Below n₀ W1 W') ∨ (e = .returned (.bool false) ∧ Jx (pre ++ [x]) W')) := hY
  have HR : Hid (Reads W (.slice ak key.length capk) key) := hR
  clear hJ hY hR hO
  gi_wp2_with fail
  refine ⟨trivial, ?_⟩
  refine (callsIn_wide.2 (sum_any _ key _ HR.out)).mono ?_
  rintro e w' ⟨rfl, hw⟩
  subst w'
  have hm := mor_lt 0 key
  gi_wp2_with fail
  refine ⟨trivial, ?_⟩
  refine (callsIn_wide.2 (more_any (mor 0 key) hm _ [1] _ (.inr ⟨W.heap.size, 0, 1, rfl, by simp, by simp, by simp [maxLen], by simp, fun j hj => by
    have : j = 0 := by simpa using hj
    subst this; simp [bc]⟩))).mono ?_
  rintro e w' ⟨rfl, hw⟩
  subst w'
  have hm2 := mor_lt (mor 0 key) [1]
  have x0 : bits .or .u32 (mor (mor 0 key) [1] : Int) 1 = (ste key : Int) := u32_or_nat _ 1 hm2 (by decide)
  have hst := ste_lt key
  have hcB0 : (W.alloc (.cells #[.int .u8 1] 5)).cell? ⟨B, 0, none⟩ = some (.int .i64 (h : Int)) := cell_al_B hB0
  have hcBf : (W.alloc (.cells #[.int .u8 1] 5)).cell? ⟨Bf, 0, none⟩ = some (.pointer (some ⟨B, 0, none⟩)) := cell_al_B hBf
  gi_wp2_with fail
  have hJ0 : J [] (W.alloc (.cells #[.int .u8 1] 5)) := HJ.out [] _ _ h0 ((Below.refl _ _).alloc (Nat.le_refl _) _)
  have hz : ((8 * D.length : Nat) : Int) ≠ 0 := by omega
  clear hcB0 hcBf hBf hBk hB0 hB1 x0 h0 hm2 HR
  gi_loopw [5, 24] (fun p i wr => ∃ k : Nat, k ≤ h ∧ i = .int .i64 (k : Int) ∧ p = .int .u32 (pla key k : Int) ∧ J (plc key (8 * D.length) k) wr ∧ n₀ ≤ wr.heap.size) (fun _ i _ => h - (intOf i).toNat)
  case atStart => exact ⟨0, by omega, rfl, by rw [pla_zero], hJ0, by simp; omega⟩
  case round =>
    obtain ⟨k, hk, rfl, rfl, hJk, hnk⟩ := hrel
    have hpl := pla_lt key k
    by_cases hlt : k < h
    · obtain ⟨fn, tmps, assign, body, hy, hRd⟩ := HY.out _ (pla key k % (8 * D.length)) _ hJk ⟨by rw [plc_len], by rw [plc_len], by rw [plc_len]; exact hlt⟩ hnk
      dsimp only [encP] at hy
      have ec : ((pla key k % (8 * D.length) : Nat) : Int) = (pla key k : Int) % (8 * (D.length : Int)) := by push_cast; rfl
      rw [ec] at hy
      have hsn : plc key (8 * D.length) k ++ [pla key k % (8 * D.length)] = plc key (8 * D.length) (k + 1) := (plc_succ _ _ _).symm
      have HSN : Hid (plc key (8 * D.length) k ++ [pla key k % (8 * D.length)] = plc key (8 * D.length) (k + 1)) := hsn
      have hps := pla_succ key k
      have HPS : Hid (((pla key k : Int) + (ste key : Int)) % 4294967296 = (pla key (k + 1) : Int)) := by unfold Hid; omega
      clear hsn hps
      gi_wp2
      refine hRd.mono ?_
      rintro e W3 (⟨rfl, hJ3, hk3⟩ | ⟨rfl, hX3⟩)
      · rw [HSN.out] at hJ3
        have hs3 := hk3.size
        clear hy hRd hk3
        gi_wp2
        go_roundw
        case rel => exact ⟨k + 1, by omega, by go_num, by rw [← HPS.out], hJ3, by omega⟩
        case measure => simp [intOf]; omega
      · rw [HSN.out] at hX3
        clear hy hRd
        gi_wp2
        refine bodyPost_ret (results_none rfl _ _ _) rfl ?_
        exact ⟨⟨_, rfl⟩, .inr ⟨_, ⟨k + 1, by omega, rfl⟩, hX3⟩⟩
    · have hkh : k = h := by omega
      subst hkh
      gi_wp2
      refine bodyPost_end (results_none rfl _ _ _) rfl ?_
      exact ⟨⟨_, rfl⟩, .inl hJk⟩
end Go.Proofs.Ytlpjdfgknmfmnaa

/- The contracts of a filter's Add and May. -/
namespace Go.Proofs.Ytlpjdfgknmfmnaa
open Go.RowKit Go.Shelf
attribute [local go_sem] Oper.semAt_some

/-- A filter in memory, made since base. -/
def Fil (w : World) (base : Nat) (v : Value) (h : Nat) (D : List UInt8) : Prop :=
  ∃ B g cap, v = .pointer (some ⟨B, 0, none⟩) ∧ base ≤ B ∧ w.heap[B]? = some (.cells #[.int .i64 (h : Int), .slice (some ⟨g, 0, none⟩) D.length cap] 125) ∧ Own w base (.slice (some ⟨g, 0, none⟩) D.length cap) D ∧ B ≠ g ∧ 1 ≤ h ∧ h ≤ 8 ∧ 0 < D.length ∧ D.length ≤ 8192
theorem Own.kcB {n : Nat} {A B : World} {base : Nat} {v : Value} {l : List UInt8} (h : Own A base v l) (hk : Kc n A B) : Own B base v l := by
  obtain ⟨h1, h2⟩ := h
  refine ⟨h1, ?_⟩
  rcases h2 with h2 | ⟨g, cap, cur, hv, hg, hw, r⟩
  · exact .inl h2
  · exact .inr ⟨g, cap, cur, hv, hg, hk.c _ _ _ _ hw, r⟩
theorem boxed_kc_B {n : Nat} {A B : World} {b : Nat} {t : TypeId} {v : Value} (h : Boxed A b t v) (hk : Kc n A B) : Boxed B b t v := hk.c _ _ _ _ h
theorem Fil.kcB {n : Nat} {A B : World} {base : Nat} {v : Value} {h : Nat} {D : List UInt8} (hf : Fil A base v h D) (hk : Kc n A B) : Fil B base v h D := by
  obtain ⟨b, g, cap, h1, h2, h3, h4, h5⟩ := hf
  exact ⟨b, g, cap, h1, h2, hk.c _ _ _ _ h3, h4.kcB hk, h5⟩
theorem Fil.below {A B : World} {base : Nat} {v : Value} {h : Nat} {D : List UInt8} (hf : Fil A base v h D) (hb : Below A.heap.size A B) : Fil B base v h D :=
  hf.kcB (Kc.of_below hb (Nat.le_refl _))
theorem Fil.mono {A : World} {base base' : Nat} {v : Value} {h : Nat} {D : List UInt8} (hf : Fil A base v h D) (hb : base' ≤ base) : Fil A base' v h D := by
  obtain ⟨b, g, cap, h1, h2, h3, h4, h5⟩ := hf
  exact ⟨b, g, cap, h1, by omega, h3, h4.mono hb, h5⟩
theorem cell_of {w : World} {B : Nat} {cs : Array Value} {t : TypeId} {fr : Nat × Nat} (h : w.heap[B]? = some (.cells cs t fr)) (i : Nat) (hi : i < cs.size) : w.cell? ⟨B, i, none⟩ = some cs[i] := by
  simp [World.cell?, h, hi]
theorem Reads.kcB {n : Nat} {A B : World} {v : Value} {l : List UInt8} (h : Reads A v l) (hk : Kc n A B) : Reads B v l := by
  rcases h with h | ⟨b, off, cap, h1, h2, h3, h4, h5, h6⟩
  · exact .inl h
  · have hs := hk.b.size
    have hc : ∀ (p : Addr) (x : Value), A.cell? p = some x → B.cell? p = some x := by
      intro p x hx
      unfold World.cell? at hx ⊢
      split at hx
      · rename_i cs t fr hb
        rw [hk.c _ _ _ _ hb]; exact hx
      · cases hx
    refine .inr ⟨b, off, cap, h1, h2, h3, h4, ?_, fun j hj => hc _ _ (h6 j hj)⟩
    have := hc _ _ (h6 0 h2)
    obtain ⟨o, ho, _⟩ := cells_of_cell this
    exact (Array.getElem?_eq_some_iff.1 ho).1
theorem grown_set (W : World) (b i : Nat) (v : Value) : W.grownBy (W.setCell ⟨b, i, none⟩ v) (some b) :=
  ⟨rfl, rfl, rfl, (KeepsWalks.setCell W _ v).size, fun k _ hk => Below.heap_setCell _ _ _ k (fun e => hk (by rw [e]))⟩
theorem sb_set (E : List UInt8) (x : Nat) (hj : x / 8 < E.length) : sb E x = E.set (x / 8) (E[x / 8] ||| UInt8.ofNat (2 ^ (x % 8))) := by
  unfold sb
  apply List.ext_getElem
  · simp
  · intro i h1 h2
    rw [List.getElem_modify, List.getElem_set]
    by_cases e : x / 8 = i
    · subst e; simp
    · simp [e]
theorem pow8 (x : Nat) : 2 ^ (x % 8) < 256 := by
  have : 2 ^ (x % 8) ≤ 2 ^ 7 := Nat.pow_le_pow_right (by decide) (by omega)
  omega
theorem or8 (a : UInt8) (x : Nat) : bits .or .u8 (a.toNat : Int) (2 ^ (x % 8) % 256) = (((a ||| UInt8.ofNat (2 ^ (x % 8))).toNat : Nat) : Int) := by
  have hp := pow8 x
  have e : ((2 : Int) ^ (x % 8) % 256) = ((2 ^ (x % 8) : Nat) : Int) := by
    have : ((2 ^ (x % 8) : Nat) : Int) = (2 : Int) ^ (x % 8) := by push_cast; rfl
    rw [← this]; exact Int.emod_eq_of_lt (Int.natCast_nonneg _) (by generalize 2 ^ (x % 8) = q at hp; omega)
  rw [e, u8_or_nat _ _ a.toNat_lt hp, UInt8.toNat_or, UInt8.toNat_ofNat', Nat.mod_eq_of_lt hp]
theorem made_any {w : World} {base : Nat} {v : Value} {h : Nat} {D : List UInt8} (hf : Fil w base v h D) : Calls Try.prog 81 #[v] w fun e w' => e = .returned (.bool true) ∧ w' = w := by
  obtain ⟨B, g, cap, rfl, hB, hc, hO, hBg, hh1, hh8, hD0, hD1⟩ := hf
  have c0 := cell_of hc 0 (by simp)
  simp at c0
  go_enter Try.func81, Try.ntmps81
  go_wp2_with fail
  go_ret
  exact ⟨by simp; omega, rfl⟩
theorem places_in (n : Nat) (p : Option Addr) (a : Option Addr) (len cap : Nat) (w : World) :
    CallsIn Fence.wide n Try.prog 82 #[.pointer p, .slice a len cap] w fun e w' => e = .returned (.func (.func 98) #[] #[.pointer (some ⟨w.heap.size, 0, none⟩), .pointer (some ⟨w.heap.size + 1, 0, none⟩)]) ∧ w' = (w.alloc (.cells #[.pointer p] 78)).alloc (.cells #[.slice a len cap] 25) := by
  refine callsIn_of_wp Try.func82 rfl trivial ?_ rfl
  simp only [Try.ntmps82, List.size_toArray, List.length_cons, List.length_nil, Nat.reduceAdd, Nat.reduceSub, Array.replicate_succ, Array.replicate_zero, List.push_toArray, List.append_toArray, List.nil_append, List.cons_append]
  gi_wp2
  go_ret
  exact ⟨rfl, rfl⟩
/-- All cells but those of one block stand. -/
def Kx (g : Nat) (A B : World) : Prop := ∀ (k : Nat) (cs : Array Value) (t : TypeId) (fr : Nat × Nat), k ≠ g → A.heap[k]? = some (Obj.cells cs t fr) → B.heap[k]? = some (Obj.cells cs t fr)
/-- All cells but those of a filter's digits stand. -/
def Kf (v : Value) (A W : World) : Prop := ∀ (B g n cap : Nat) (x : Value), v = .pointer (some ⟨B, 0, none⟩) → A.heap[B]? = some (.cells #[x, .slice (some ⟨g, 0, none⟩) n cap] 125) → Kx g A W
/-- What Add knows between two rounds. -/
def IAdd (w : World) (base : Nat) (v : Value) (h : Nat) (D : List UInt8) (g : Nat) (pre : List Nat) (W : World) : Prop := Fil W base v h (adF D pre) ∧ Boxed W w.heap.size 78 v ∧ Below base w W ∧ Kx g w W ∧ ∃ B, v = .pointer (some ⟨B, 0, none⟩) ∧ W.heap[B]? = w.heap[B]?
set_option maxRecDepth 100000 in
set_option maxHeartbeats 2000000 in
theorem add_in (n : Nat) (hn : 5 ≤ n) (v kv : Value) (h : Nat) (D key : List UInt8) (w : World) (base : Nat) (hbase : base ≤ w.heap.size) (hF : Fil w base v h D) (hR : Reads w kv key) :
    CallsIn Fence.wide n Try.prog 59 #[v, kv] w fun e W' => e = .returned (.int .i64 0) ∧ Fil W' base v h (adF D (plc key (8 * D.length) h)) ∧ Below base w W' ∧ Kf v w W' := by
  have h1 : 1 ≤ n := by omega
  obtain ⟨ak, capk, rfl, _⟩ := hR.form
  obtain ⟨B, g, cap, rfl, hB, hc, hO, hBg, hh1, hh8, hD0, hD1⟩ := id hF
  have HF : Hid (Fil w base (.pointer (some ⟨B, 0, none⟩)) h D) := hF
  have HR : Hid (Reads w (.slice ak key.length capk) key) := hR
  have HC : Hid (w.heap[B]? = some (.cells #[.int .i64 (h : Int), .slice (some ⟨g, 0, none⟩) D.length cap] 125)) := hc
  have HO : Hid (Own w base (.slice (some ⟨g, 0, none⟩) D.length cap) D) := hO
  clear hF hR hc hO
  refine callsIn_of_wp_marks Try.func59 rfl trivial ?_ rfl
  simp only [Try.ntmps59, List.size_toArray, List.length_cons, List.length_nil, Nat.reduceAdd, Nat.reduceSub, Array.replicate_succ, Array.replicate_zero, List.push_toArray, List.append_toArray, List.nil_append, List.cons_append]
  gi_wp2_with fail
  refine ⟨trivial, ?_⟩
  refine (callsIn_wide.2 (made_any (HF.out.below ((Below.refl _ _).alloc (Nat.le_refl _) _)))).mono ?_
  rintro e w' ⟨rfl, hw⟩
  subst w'
  gi_wp2_with fail
  refine ⟨trivial, ?_⟩
  refine (places_in _ _ _ _ _ _).mono ?_
  rintro e w' ⟨rfl, rfl⟩
  simp only [World.size_alloc]
  have HB0 : Hid (Below w.heap.size w (((w.alloc (.cells #[.pointer (some ⟨B, 0, none⟩)] 78)).alloc (.cells #[.pointer (some ⟨B, 0, none⟩)] 78)).alloc (.cells #[.slice ak key.length capk] 25))) := (((Below.refl _ w).alloc (Nat.le_refl _) _).alloc (by simp) _).alloc (by simp; omega) _
  have HX0 : Hid (Boxed (((w.alloc (.cells #[.pointer (some ⟨B, 0, none⟩)] 78)).alloc (.cells #[.pointer (some ⟨B, 0, none⟩)] 78)).alloc (.cells #[.slice ak key.length capk] 25)) w.heap.size 78 (.pointer (some ⟨B, 0, none⟩))) := ((Boxed.new w _ _).alloc _).alloc _
  have HX1 : Hid (Boxed (((w.alloc (.cells #[.pointer (some ⟨B, 0, none⟩)] 78)).alloc (.cells #[.pointer (some ⟨B, 0, none⟩)] 78)).alloc (.cells #[.slice ak key.length capk] 25)) (w.heap.size + 1) 78 (.pointer (some ⟨B, 0, none⟩))) := by
    have := (Boxed.new (w.alloc (.cells #[.pointer (some ⟨B, 0, none⟩)] 78)) 78 (.pointer (some ⟨B, 0, none⟩))).alloc (.cells #[.slice ak key.length capk] 25)
    rw [World.size_alloc] at this; exact this
  have HX2 : Hid (Boxed (((w.alloc (.cells #[.pointer (some ⟨B, 0, none⟩)] 78)).alloc (.cells #[.pointer (some ⟨B, 0, none⟩)] 78)).alloc (.cells #[.slice ak key.length capk] 25)) (w.heap.size + 1 + 1) 25 (.slice ak key.length capk)) := by
    have := (Boxed.new ((w.alloc (.cells #[.pointer (some ⟨B, 0, none⟩)] 78)).alloc (.cells #[.pointer (some ⟨B, 0, none⟩)] 78)) 25 (.slice ak key.length capk))
    rw [World.size_alloc, World.size_alloc] at this; exact this
  gi_wp2_with fail
  refine wpIn_range_x rfl h1 (gf := 98) (lb := #[.pointer (some ⟨w.heap.size + 1, 0, none⟩), .pointer (some ⟨w.heap.size + 1 + 1, 0, none⟩)]) rfl trivial (enters_of Try.func98 (by kernel_rfl) rfl) (encs := encP) (fun _ => rfl) (IAdd w base (.pointer (some ⟨B, 0, none⟩)) h D g) (fun _ _ _ => False) (PreP_B key (8 * D.length) h) (fun xs => xs = plc key (8 * D.length) h) (fun xs => ∃ k, k ≤ h ∧ xs = plc key (8 * D.length) k) base (by simp; omega)
    (fun l J Jx W hK hn₀ hJ _ hY h0 => (places1_in (n - 1) (by omega) l (w.heap.size + 1) (w.heap.size + 1 + 1) B h _ _ D key hD0 hD1 hh8 base J Jx W hn₀ hJ hY (boxed_kc_B HX1.out hK).cell (boxed_kc_B HX2.out hK).cell
      (cell_of (hK.c _ _ _ _ ((HB0.out.block B (Array.getElem?_eq_some_iff.1 HC.out).1).trans HC.out)) 0 (by simp)) (cell_of (hK.c _ _ _ _ ((HB0.out.block B (Array.getElem?_eq_some_iff.1 HC.out).1).trans HC.out)) 1 (by simp)) ((HO.out.reads.below HB0.out).kcB hK) ((HR.out.below HB0.out).kcB hK) h0).mono ?_)
    (fun pre _ _ hI hk => ⟨hI.1.kcB hk, boxed_kc_B hI.2.1 hk, hI.2.2.1.trans hk.b, fun k cs t fr hne hc => hk.c _ _ _ _ (hI.2.2.2.1 k cs t fr hne hc), B, rfl, by obtain ⟨_, e, hh⟩ := hI.2.2.2.2; cases e; rw [HC.out] at hh ⊢; exact hk.c _ _ _ _ hh⟩) (fun _ _ _ _ h _ => h) (fun _ _ _ _ hp _ => hp) ⟨HF.out.below HB0.out, HX0.out, HB0.out.mono hbase, fun k cs t fr _ hc => (HB0.out.block k (Array.getElem?_eq_some_iff.1 hc).1).trans hc, B, rfl, HB0.out.block B (Array.getElem?_eq_some_iff.1 HC.out).1⟩
    (fun x => { tmps := #[.pointer (some ⟨B, 0, none⟩), .slice ak key.length capk, .pointer (some ⟨w.heap.size, 0, none⟩), undef, .int .i64 0, .int .u32 (x : Int), .pointer (some ⟨B, 0, none⟩), .bool true, .bool false, .pointer (some ⟨B, 0, none⟩), .slice ak key.length capk, .func (.func 98) #[] #[.pointer (some ⟨w.heap.size + 1, 0, none⟩), .pointer (some ⟨w.heap.size + 1 + 1, 0, none⟩)], .int .u32 (x : Int), undef, undef, undef, undef, undef, undef, undef, undef, undef, undef, undef, undef, undef], defers := [] }) ?assign ?body ?done ?left
  · rintro e W' ⟨hv, hJ | hX⟩
    · exact ⟨hv, .inl ⟨_, rfl, hJ⟩⟩
    · exact ⟨hv, .inr hX⟩
  case assign =>
    intro l x W K hK
    dsimp only [encP]
    gi_wp2
    exact hK
  case body =>
    rintro l pre x W ⟨hFW, hXW, hBW, hKW, _, hBe0, hBW0⟩ ⟨hp1, hp2, hp3⟩ hnW
    cases hBe0
    obtain ⟨B', g', cap', hBe, hBB, hcW, hOW, hBgW, _, _, _, _⟩ := id hFW
    obtain rfl : B = B' := by simpa using hBe
    obtain rfl : g' = g := by
      rw [hcW, HC.out] at hBW0
      simp at hBW0
      exact hBW0.1
    have HBW0 : Hid (W.heap[B]? = w.heap[B]?) := hBW0
    have HKW : Hid (Kx g' w W) := hKW
    clear hBW0 hKW
    have hx : x < 8 * D.length := by rw [hp2]; exact Nat.mod_lt _ (by omega)
    have hEl := adF_len pre D
    obtain ⟨E, hE⟩ := hid_ex (adF D pre)
    rw [← hE.out] at hcW hOW hEl
    have hc0 := hXW.cell
    have hc1 := cell_of hcW 1 (by simp)
    simp at hc1
    have hj : x / 8 < E.length := by omega
    obtain ⟨hc2, hf2⟩ := hOW.at (x / 8) hj
    have HCW : Hid (W.heap[B]? = some (.cells #[.int .i64 (h : Int), .slice (some ⟨g', 0, none⟩) E.length cap'] 125)) := hcW
    have HOW : Hid (Own W base (.slice (some ⟨g', 0, none⟩) E.length cap') E) := hOW
    unfold bc at hc2
    have hb2 : E[x / 8].toNat < 256 := E[x / 8].toNat_lt
    have q1 : ((x : Int) / 8).toNat = x / 8 := by omega
    have q2 : ((x : Int) % 8).toNat = x % 8 := by omega
    have q3 : 0 ≤ (x : Int) / 8 := by omega
    have q4 : (x : Int) / 8 < (E.length : Int) := by omega
    clear hFW hBe hcW hOW hp1 hp2 hp3
    gi_wp2
    rw [or8]
    obtain ⟨hO3, hb3⟩ := HOW.out.stored (x / 8) (E[x / 8] ||| UInt8.ofNat (2 ^ (x % 8)))
    have hgr := grown_set W g' (x / 8) (bc (E[x / 8] ||| UInt8.ofNat (2 ^ (x % 8))))
    have hBlt := (Array.getElem?_eq_some_iff.1 HCW.out).1
    have hsl : (sb E x).length = E.length := sb_len E x
    rw [← sb_set E x hj] at hO3
    have hA : adF D (pre ++ [x]) = sb E x := by rw [adF_snoc, hE.out]
    refine ⟨KeepsOthers.setCell _ _ _, hb3, ⟨?_, hXW.kept hgr (hXW.not_row (by decide) HOW.out), hBW.trans hb3, fun k cs t fr hne hc => (hgr.block k (Nat.lt_of_lt_of_le (Array.getElem?_eq_some_iff.1 hc).1 hBW.size) (by simp; omega)).trans (HKW.out k cs t fr hne hc), B, rfl, (hgr.block B hBlt (by simpa using hBgW)).trans HBW0.out⟩⟩
    rw [hA]
    exact ⟨B, g', cap', rfl, hBB, by rw [hsl]; exact (hgr.block B hBlt (by simpa using hBgW)).trans HCW.out, by rw [hsl]; exact hO3, hBgW, hh1, hh8, by omega, by omega⟩
  case done =>
    rintro D' ys W hD hS ⟨hFW, hXW, hBW, hKW, hEW⟩ hK
    clear hEW
    subst hS
    gi_wp2
    refine ⟨by simp, .inl ⟨_, _, rfl, run_takeDeferred hK, ?_⟩⟩
    have hpk := Kc.put (n := base) (.deferred none) hK rfl (by simp at hD; omega)
    refine ⟨_, results_tmp rfl _ _ _, rfl, hFW.kcB hpk, hBW.trans hpk.b, ?_⟩
    intro B2 g2 n2 cap2 x2 e1 e2
    cases e1
    rw [HC.out] at e2
    simp at e2
    obtain ⟨_, rfl, _, _⟩ := e2
    exact fun k cs t fr hne hc => hpk.c _ _ _ _ (hKW k cs t fr hne hc)
  case left => intro _ _ _ _ _ _ h; exact h.elim
end Go.Proofs.Ytlpjdfgknmfmnaa
