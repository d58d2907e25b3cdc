/- V1 B1 V2 B2, joined. -/
import Derived.Test.YtopemhlkjicjpaaTG1
import Derived.Test.YtopemhlkjicjpaaTG6
import Derived.Test.YtopemhlkjicjpaaTG10
import Derived.RangeFuncNested
import Derived.RangeFuncBound
import Derived.RangeFuncCalls
import Derived.Shelf.Abstract
import Derived.Shelf.RegionOpen
import Derived.WalkKit
import Derived.OwnWalkIn
import Derived.TacticsInMore
import Derived.LoopNIn
import Derived.LoopIn
/- The sum's mathematics: the register as a natural number, of any length. -/
namespace Go.Proofs.Ytopemhlkjicjpaa

/-- One digit leaves the register. -/
def stp (c : Nat) : Nat := if c % 2 = 1 then (c / 2) ^^^ 2197175160 else c / 2
/-- So many digits leave it. -/
def stps : Nat → Nat → Nat
  | 0, c => c
  | n + 1, c => stps n (stp c)
/-- The register behind a byte. -/
def byt (c : Nat) (x : UInt8) : Nat := stps 8 (c ^^^ x.toNat)
/-- The register behind bytes. -/
def reg (c : Nat) : List UInt8 → Nat
  | [] => c
  | x :: l => reg (byt c x) l
/-- The sum of what goes on. -/
def mor (s : Nat) (l : List UInt8) : Nat := 4294967295 - reg (4294967295 - s) l
/-- The value of bytes, the least one first. -/
def vle : List UInt8 → Nat
  | [] => 0
  | x :: l => x.toNat + 256 * vle l
/-- A number as four bytes, the least one first. -/
def four (n : Nat) : List UInt8 := [UInt8.ofNat n, UInt8.ofNat (n / 256), UInt8.ofNat (n / 65536), UInt8.ofNat (n / 16777216)]

theorem xor_lt32 {a b : Nat} (ha : a < 4294967296) (hb : b < 4294967296) : a ^^^ b < 4294967296 := Nat.xor_lt_two_pow (n := 32) ha hb
theorem stps_add (m n : Nat) : ∀ c, stps (m + n) c = stps n (stps m c) := by
  induction m with
  | zero => intro c; simp [stps]
  | succ m ih => intro c; rw [Nat.succ_add]; exact ih (stp c)
theorem stps_snoc (n : Nat) (c : Nat) : stps (n + 1) c = stp (stps n c) := by rw [stps_add]; rfl
theorem reg_append (a b : List UInt8) : ∀ c, reg c (a ++ b) = reg (reg c a) b := by
  induction a with
  | nil => intro c; rfl
  | cons x a ih => intro c; exact ih (byt c x)
theorem reg_snoc (a : List UInt8) (x : UInt8) (c : Nat) : reg c (a ++ [x]) = byt (reg c a) x := by rw [reg_append]; rfl
theorem mor_lt (s : Nat) (l : List UInt8) : mor s l < 4294967296 := by unfold mor; omega
/-- The digits turned. -/
theorem not32 {a : Nat} (h : a < 4294967296) : 4294967295 - a = 4294967295 ^^^ a := by
  have e : (BitVec.allOnes 32 ^^^ BitVec.ofNat 32 a).toNat = (~~~ BitVec.ofNat 32 a).toNat := by rw [BitVec.allOnes_xor]
  rw [BitVec.toNat_xor, BitVec.toNat_not, BitVec.toNat_allOnes, BitVec.toNat_ofNat, Nat.mod_eq_of_lt (by omega)] at e
  simpa using e.symm
end Go.Proofs.Ytopemhlkjicjpaa

/- A filter's mathematics: places, digits. -/
namespace Go.Proofs.Ytopemhlkjicjpaa

/-- What a key's places go on by. -/
def ste (key : List UInt8) : Nat := mor (mor 0 key) [1] ||| 1
/-- A key's i-th place, ahead of the number of digits. -/
def pla (key : List UInt8) (i : Nat) : Nat := (mor 0 key + i * ste key) % 4294967296
/-- A key's places in so many digits. -/
def plc (key : List UInt8) (n h : Nat) : List Nat := (List.range h).map fun i => pla key i % n
theorem ste_lt (key : List UInt8) : ste key < 4294967296 := Nat.or_lt_two_pow (n := 32) (mor_lt _ _) (by decide)
theorem pla_lt (key : List UInt8) (i : Nat) : pla key i < 4294967296 := Nat.mod_lt _ (by decide)
theorem pla_zero (key : List UInt8) : pla key 0 = mor 0 key := by unfold pla; have := mor_lt 0 key; omega
theorem pla_succ (key : List UInt8) (i : Nat) : pla key (i + 1) = (pla key i + ste key) % 4294967296 := by
  unfold pla; rw [Nat.succ_mul]; omega
theorem plc_len (key : List UInt8) (n h : Nat) : (plc key n h).length = h := by simp [plc]
theorem plc_succ (key : List UInt8) (n h : Nat) : plc key n (h + 1) = plc key n h ++ [pla key h % n] := by simp [plc, List.range_succ]
theorem plc_take (key : List UInt8) (n h k : Nat) (hk : k ≤ h) : (plc key n h).take k = plc key n k := by
  unfold plc; rw [← List.map_take, List.take_range, Nat.min_eq_left hk]
theorem plc_lt {key : List UInt8} {n h : Nat} (hn : 0 < n) : ∀ p ∈ plc key n h, p < n := by
  intro p hp
  obtain ⟨i, _, rfl⟩ := List.mem_map.1 hp
  exact Nat.mod_lt _ hn
/-- A digit is made 1. -/
def sb (D : List UInt8) (p : Nat) : List UInt8 := D.modify (p / 8) fun x => x ||| UInt8.ofNat (2 ^ (p % 8))
/-- Is a digit 1? -/
def gb (D : List UInt8) (p : Nat) : Bool := (D.getD (p / 8) 0).toNat.testBit (p % 8)
def adF (D : List UInt8) (ps : List Nat) : List UInt8 := ps.foldl sb D
def myF (D : List UInt8) (ps : List Nat) : Bool := ps.all fun p => gb D p
theorem sb_len (D : List UInt8) (p : Nat) : (sb D p).length = D.length := by simp [sb]
theorem adF_len (ps : List Nat) : ∀ D, (adF D ps).length = D.length := by
  induction ps with
  | nil => intro D; rfl
  | cons p ps ih => intro D; show (adF (sb D p) ps).length = _; rw [ih, sb_len]
theorem adF_snoc (D : List UInt8) (ps : List Nat) (p : Nat) : adF D (ps ++ [p]) = sb (adF D ps) p := by simp [adF]
theorem gb_sb (D : List UInt8) (p q : Nat) (hp : p / 8 < D.length) : gb (sb D p) q = (gb D q || decide (p = q)) := by
  unfold gb sb
  have hp8 : p % 8 < 8 := Nat.mod_lt _ (by decide)
  have hq8 : q % 8 < 8 := Nat.mod_lt _ (by decide)
  by_cases h : p / 8 = q / 8
  · have e1 : (D.modify (p / 8) fun x => x ||| UInt8.ofNat (2 ^ (p % 8))).getD (q / 8) 0 = (D.getD (q / 8) 0) ||| UInt8.ofNat (2 ^ (p % 8)) := by
      rw [← h]
      simp [List.getD, hp]
    rw [e1, UInt8.toNat_or, Nat.testBit_or]
    congr 1
    have hlt : 2 ^ (p % 8) < 256 := by
      have : 2 ^ (p % 8) ≤ 2 ^ 7 := Nat.pow_le_pow_right (by decide) (by omega)
      omega
    rw [UInt8.toNat_ofNat', Nat.mod_eq_of_lt hlt, Nat.testBit_two_pow]
    simp only [decide_eq_decide]
    constructor
    · intro h1; omega
    · intro h1; rw [h1]
  · have e1 : (D.modify (p / 8) fun x => x ||| UInt8.ofNat (2 ^ (p % 8))).getD (q / 8) 0 = (D.getD (q / 8) 0) := by
      simp [List.getD, h]
    rw [e1]
    have : p ≠ q := by intro e; exact h (by rw [e])
    simp [this]
theorem gb_adF (ps : List Nat) : ∀ (D : List UInt8) (q : Nat), (∀ p ∈ ps, p / 8 < D.length) → gb (adF D ps) q = (gb D q || decide (q ∈ ps)) := by
  induction ps with
  | nil => intro D q _; simp [adF]
  | cons p ps ih =>
    intro D q h
    show gb (adF (sb D p) ps) q = _
    rw [ih _ _ (by intro r hr; rw [sb_len]; exact h r (List.mem_cons_of_mem _ hr)), gb_sb _ _ _ (h p (List.mem_cons_self ..))]
    by_cases e : p = q
    · subst e; simp
    · have : q ≠ p := fun h => e h.symm
      simp [e, this]
end Go.Proofs.Ytopemhlkjicjpaa

/- The contracts of crc.More and crc.Sum. -/
namespace Go.Proofs.Ytopemhlkjicjpaa
open Go.RowKit

theorem x_not {c : Nat} (h : c < 4294967296) : bits .xor .u32 IntKind.u32.max (c : Int) = ((4294967295 - c : Nat) : Int) := by
  have := u32_xor_nat 4294967295 c (by decide) h
  rw [← not32 h] at this
  exact this
theorem x_xor {c d : Nat} (h : c < 4294967296) (hd : d < 4294967296) : bits .xor .u32 (c : Int) (d : Int) = ((c ^^^ d : Nat) : Int) := u32_xor_nat c d h hd
theorem x_and {c : Nat} (h : c < 4294967296) : bits .and .u32 (c : Int) 1 = ((c % 2 : Nat) : Int) := by
  have := u32_and_nat c 1 h (by decide)
  rw [Nat.and_one_is_mod] at this
  exact this
theorem x_turn {c : Nat} (h : c < 4294967296) : bits .xor .u32 ((c : Int) / 2) 2197175160 = ((c / 2 ^^^ 2197175160 : Nat) : Int) := u32_xor_nat (c / 2) 2197175160 (by omega) (by decide)

set_option maxRecDepth 100000 in
set_option maxHeartbeats 1000000 in
theorem more_some (s : Nat) (hs : s < 4294967296) (b off cap : Nat) (l : List UInt8) (hl : l.length ≤ maxLen) (w : World)
    (hc : ∀ j (h : j < l.length), w.cell? ⟨b, off + j, none⟩ = some (bc l[j])) :
    Calls Try.prog 73 #[.int .u32 (s : Int), .slice (some ⟨b, off, none⟩) l.length cap] w fun e w' => e = .returned (.int .u32 (mor s l : Nat)) ∧ w' = w := by
  unfold maxLen at hl
  have x0 := x_not hs
  have HC : Hid (∀ j (h : j < l.length), w.cell? ⟨b, off + j, none⟩ = some (bc l[j])) := hc
  clear hc
  go_enter Try.func73, Try.ntmps73
  go_wp2_with fail
  go_loop [5, 13] (fun r i => ∃ k c : Nat, k ≤ l.length ∧ i = .int .i64 k ∧ c < 4294967296 ∧ r = .int .u32 (c : Int) ∧ Hid (c = reg (4294967295 - s) (l.take k))) (fun _ i => l.length - (intOf i).toNat)
  case atStart => exact ⟨0, _, Nat.zero_le _, rfl, by omega, rfl, rfl⟩
  case round =>
    obtain ⟨k, c, hk, rfl, hcl, rfl, HE⟩ := hrel
    by_cases hlt : k < l.length
    · have hcell := HC.out k hlt
      have hx := x_xor (c := c) (d := l[k].toNat) hcl (by have := l[k].toNat_lt; omega)
      have hxb : l[k].toNat < 256 := l[k].toNat_lt
      unfold bc at hcell
      go_wp2_with fail
      go_loop [5, 21] (fun r i => ∃ m d : Nat, m ≤ 8 ∧ i = .int .i64 m ∧ d < 4294967296 ∧ r = .int .u32 (d : Int) ∧ Hid (d = stps m (c ^^^ l[k].toNat))) (fun _ i => 8 - (intOf i).toNat)
      case atStart => exact ⟨0, _, by omega, rfl, xor_lt32 hcl (by have := l[k].toNat_lt; omega), rfl, rfl⟩
      case round =>
        obtain ⟨m, d, hm, rfl, hd, rfl, HD⟩ := hrel
        by_cases hm8 : m < 8
        · have y0 := x_and hd
          have y1 := x_turn hd
          rcases Nat.mod_two_eq_zero_or_one d with h2 | h2
          · rw [h2] at y0
            have hs2 : stp d = d / 2 := by unfold stp; rw [if_neg (by omega)]
            have HS : Hid (d / 2 = stps (m + 1) (c ^^^ l[k].toNat)) := by unfold Hid; rw [stps_snoc, ← HD.out, hs2]
            clear hs2 h2
            go_wp2_with fail
            go_round
            case rel => exact ⟨m + 1, d / 2, by omega, by go_num, by omega, by go_num, HS⟩
            case measure => simp [intOf]; omega
          · rw [h2] at y0
            have hs2 : stp d = d / 2 ^^^ 2197175160 := by unfold stp; rw [if_pos h2]
            have HS : Hid (d / 2 ^^^ 2197175160 = stps (m + 1) (c ^^^ l[k].toNat)) := by unfold Hid; rw [stps_snoc, ← HD.out, hs2]
            have hlt2 := xor_lt32 (a := d / 2) (b := 2197175160) (by omega) (by omega)
            clear hs2 h2
            go_wp2_with fail
            go_round
            case rel => exact ⟨m + 1, d / 2 ^^^ 2197175160, by omega, by go_num, hlt2, rfl, HS⟩
            case measure => simp [intOf]; omega
        · have HS : Hid (d = reg (4294967295 - s) (l.take (k + 1))) := by
            unfold Hid
            have e8 : m = 8 := by omega
            rw [List.take_succ_eq_append_getElem hlt, reg_snoc, ← HE.out, HD.out, e8]
            rfl
          go_wp2_with fail
          go_round
          case rel => exact ⟨k + 1, d, by omega, by go_num, hd, rfl, HS⟩
          case measure => simp [intOf]; omega
    · have hkl : k = l.length := by omega
      have x1 := x_not hcl
      have HS : Hid (4294967295 - c = mor s l) := by
        unfold Hid mor
        rw [HE.out, hkl, List.take_length]
      clear hkl
      go_wp2_with fail
      go_ret
      exact ⟨by rw [HS.out]; rfl, rfl⟩
theorem more_none (s : Nat) (hs : s < 4294967296) (a : Option Addr) (cap : Nat) (w : World) :
    Calls Try.prog 73 #[.int .u32 (s : Int), .slice a 0 cap] w fun e w' => e = .returned (.int .u32 (mor s [] : Nat)) ∧ w' = w := by
  have x0 := x_not hs
  have x1 := x_not (c := 4294967295 - s) (by omega)
  have HS : Hid (4294967295 - (4294967295 - s) = mor s []) := rfl
  go_enter Try.func73, Try.ntmps73
  go_wp2_with fail
  go_loop [5, 13] (fun r i => i = .int .i64 0 ∧ r = .int .u32 ((4294967295 - s : Nat) : Int)) (fun _ _ => 0)
  case atStart => exact ⟨rfl, rfl⟩
  case round =>
    obtain ⟨rfl, rfl⟩ := hrel
    go_wp2_with fail
    go_ret
    exact ⟨by rw [HS.out]; rfl, rfl⟩
theorem more_any (s : Nat) (hs : s < 4294967296) (v : Value) (l : List UInt8) (w : World) (h : Reads w v l) :
    Calls Try.prog 73 #[.int .u32 (s : Int), v] w fun e w' => e = .returned (.int .u32 (mor s l : Nat)) ∧ w' = w := by
  rcases h with ⟨rfl, a, cap, rfl, _⟩ | ⟨b, off, cap, rfl, h2, h3, h4, h5, h6⟩
  · exact more_none s hs a cap w
  · exact more_some s hs b off cap l (by omega) w h6
theorem sum_any (v : Value) (l : List UInt8) (w : World) (h : Reads w v l) :
    Calls Try.prog 56 #[v] w fun e w' => e = .returned (.int .u32 (mor 0 l : Nat)) ∧ w' = w := by
  obtain ⟨a, cap, rfl, _⟩ := h.form
  go_enter Try.func56, Try.ntmps56
  go_wp2_with fail
  refine (more_any 0 (by decide) _ l _ h).mono ?_
  rintro e w' ⟨rfl, hw⟩
  subst w'
  clear h
  go_wp2_with fail
  go_ret
  exact ⟨rfl, rfl⟩
end Go.Proofs.Ytopemhlkjicjpaa

/- The contract of the filter's places: what the function that is ranged over hands over. -/
namespace Go.Proofs.Ytopemhlkjicjpaa
open Go.RowKit Go.Shelf
attribute [local go_sem] Oper.semAt_some

def encP (x : Nat) : Array Value := #[.int .u32 (x : Int)]
def PreP_B (key : List UInt8) (n h : Nat) (pre : List Nat) (x : Nat) (_ : World) : Prop := pre = plc key n pre.length ∧ x = pla key pre.length % n ∧ pre.length < h
theorem cell_al_B {W : World} {o : Obj} {a : Addr} {v : Value} (h : W.cell? a = some v) : (W.alloc o).cell? a = some v := by
  obtain ⟨ob, hb, _⟩ := cells_of_cell h
  have hl := (Array.getElem?_eq_some_iff.1 hb).1
  exact (((Below.refl W.heap.size W).alloc (Nat.le_refl _) o).cell hl).trans h
set_option maxRecDepth 100000 in
set_option maxHeartbeats 2000000 in
theorem places1_in (n : Nat) (_hn : 1 ≤ n) (l Bf Bk B h : Nat) (v kv : Value) (D key : List UInt8) (hD0 : 0 < D.length) (hD1 : D.length ≤ 8192) (hh : h ≤ 8) (n₀ : Nat) (J Jx : List Nat → World → Prop) (W : World) (hn0 : n₀ ≤ W.heap.size)
    (hJ : ∀ pre A B, J pre A → Below A.heap.size A B → J pre B)
    (hY : ∀ pre x W1, J pre W1 → PreP_B key (8 * D.length) h pre x W1 → n₀ ≤ W1.heap.size → YieldAt Fence.wide (n - 1) Try.prog l (encP x) W1 fun e W' => (e = .returned (.bool true) ∧ J (pre ++ [x]) W' ∧ Below n₀ W1 W') ∨ (e = .returned (.bool false) ∧ Jx (pre ++ [x]) W'))
    (hBf : W.cell? ⟨Bf, 0, none⟩ = some (.pointer (some ⟨B, 0, none⟩))) (hBk : W.cell? ⟨Bk, 0, none⟩ = some kv) (hB0 : W.cell? ⟨B, 0, none⟩ = some (.int .i64 (h : Int))) (hB1 : W.cell? ⟨B, 1, none⟩ = some v) (hO : Reads W v D) (hR : Reads W kv key) (h0 : J [] W) :
    CallsIn Fence.wide n Try.prog 80 #[.func (.yield l) #[] #[], .pointer (some ⟨Bf, 0, none⟩), .pointer (some ⟨Bk, 0, none⟩)] W fun e W' => (∃ v, e = .returned v) ∧ (J (plc key (8 * D.length) h) W' ∨ ∃ xs, (∃ k, k ≤ h ∧ xs = plc key (8 * D.length) k) ∧ Jx xs W') := by
  refine callsIn_of_wp Try.func80 rfl trivial ?_ rfl
  simp only [Try.ntmps80, List.size_toArray, List.length_cons, List.length_nil, Nat.reduceAdd, Nat.reduceSub, Array.replicate_succ, Array.replicate_zero, List.push_toArray, List.append_toArray, List.nil_append, List.cons_append]
  obtain ⟨a, cap, rfl, _⟩ := hO.form
  obtain ⟨ak, capk, rfl, _⟩ := hR.form
  have HJ : Hid (∀ pre A B, J pre A → Below A.heap.size A B → J pre B) := hJ
  have HY : Hid (∀ pre x W1, J pre W1 → PreP_B key (8 * D.length) h pre x W1 → n₀ ≤ W1.heap.size → YieldAt Fence.wide (n - 1) Try.prog l (encP x) W1 fun e W' => (e = .returned (.bool true) ∧ J (pre ++ [x]) W' ∧ Below n₀ W1 W') ∨ (e = .returned (.bool false) ∧ Jx (pre ++ [x]) W')) := hY
  have HR : Hid (Reads W (.slice ak key.length capk) key) := hR
  clear hJ hY hR hO
  gi_wp2_with fail
  refine ⟨trivial, ?_⟩
  refine (callsIn_wide.2 (sum_any _ key _ HR.out)).mono ?_
  rintro e w' ⟨rfl, hw⟩
  subst w'
  have hm := mor_lt 0 key
  gi_wp2_with fail
  refine ⟨trivial, ?_⟩
  refine (callsIn_wide.2 (more_any (mor 0 key) hm _ [1] _ (.inr ⟨W.heap.size, 0, 1, rfl, by simp, by simp, by simp [maxLen], by simp, fun j hj => by
    have : j = 0 := by simpa using hj
    subst this; simp [bc]⟩))).mono ?_
  rintro e w' ⟨rfl, hw⟩
  subst w'
  have hm2 := mor_lt (mor 0 key) [1]
  have x0 : bits .or .u32 (mor (mor 0 key) [1] : Int) 1 = (ste key : Int) := u32_or_nat _ 1 hm2 (by decide)
  have hst := ste_lt key
  have hcB0 : (W.alloc (.cells #[.int .u8 1] 5)).cell? ⟨B, 0, none⟩ = some (.int .i64 (h : Int)) := cell_al_B hB0
  have hcBf : (W.alloc (.cells #[.int .u8 1] 5)).cell? ⟨Bf, 0, none⟩ = some (.pointer (some ⟨B, 0, none⟩)) := cell_al_B hBf
  gi_wp2_with fail
  have hJ0 : J [] (W.alloc (.cells #[.int .u8 1] 5)) := HJ.out [] _ _ h0 ((Below.refl _ _).alloc (Nat.le_refl _) _)
  have hz : ((8 * D.length : Nat) : Int) ≠ 0 := by omega
  clear hcB0 hcBf hBf hBk hB0 hB1 x0 h0 hm2 HR
  gi_loopw [5, 24] (fun p i wr => ∃ k : Nat, k ≤ h ∧ i = .int .i64 (k : Int) ∧ p = .int .u32 (pla key k : Int) ∧ J (plc key (8 * D.length) k) wr ∧ n₀ ≤ wr.heap.size) (fun _ i _ => h - (intOf i).toNat)
  case atStart => exact ⟨0, by omega, rfl, by rw [pla_zero], hJ0, by simp; omega⟩
  case round =>
    obtain ⟨k, hk, rfl, rfl, hJk, hnk⟩ := hrel
    have hpl := pla_lt key k
    by_cases hlt : k < h
    · obtain ⟨fn, tmps, assign, body, hy, hRd⟩ := HY.out _ (pla key k % (8 * D.length)) _ hJk ⟨by rw [plc_len], by rw [plc_len], by rw [plc_len]; exact hlt⟩ hnk
      dsimp only [encP] at hy
      have ec : ((pla key k % (8 * D.length) : Nat) : Int) = (pla key k : Int) % (8 * (D.length : Int)) := by push_cast; rfl
      rw [ec] at hy
      have hsn : plc key (8 * D.length) k ++ [pla key k % (8 * D.length)] = plc key (8 * D.length) (k + 1) := (plc_succ _ _ _).symm
      have HSN : Hid (plc key (8 * D.length) k ++ [pla key k % (8 * D.length)] = plc key (8 * D.length) (k + 1)) := hsn
      have hps := pla_succ key k
      have HPS : Hid (((pla key k : Int) + (ste key : Int)) % 4294967296 = (pla key (k + 1) : Int)) := by unfold Hid; omega
      clear hsn hps
      gi_wp2
      refine hRd.mono ?_
      rintro e W3 (⟨rfl, hJ3, hk3⟩ | ⟨rfl, hX3⟩)
      · rw [HSN.out] at hJ3
        have hs3 := hk3.size
        clear hy hRd hk3
        gi_wp2
        go_roundw
        case rel => exact ⟨k + 1, by omega, by go_num, by rw [← HPS.out], hJ3, by omega⟩
        case measure => simp [intOf]; omega
      · rw [HSN.out] at hX3
        clear hy hRd
        gi_wp2
        refine bodyPost_ret (results_none rfl _ _ _) rfl ?_
        exact ⟨⟨_, rfl⟩, .inr ⟨_, ⟨k + 1, by omega, rfl⟩, hX3⟩⟩
    · have hkh : k = h := by omega
      subst hkh
      gi_wp2
      refine bodyPost_end (results_none rfl _ _ _) rfl ?_
      exact ⟨⟨_, rfl⟩, .inl hJk⟩
end Go.Proofs.Ytopemhlkjicjpaa
