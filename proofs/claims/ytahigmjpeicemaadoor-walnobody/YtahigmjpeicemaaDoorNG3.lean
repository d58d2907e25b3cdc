/- W11 W12 C5 C6, joined. -/
import Derived.Test.YtahigmjpeicemaaDoorNG2
import Derived.Laws.BitsAllLaws
/- The contract of wide.Write: sixteen bytes, the greatest first. -/
namespace Go.Proofs.YtahigmjpeicemaaDoor
open Go.RowKit

theorem mk8 : ∀ w, (Instr.makeSlice 28 (.int .i64 0) (.int .i64 (8 * ((1 : Nat) : Int)))).run Tryd.prog w = .ok (.slice (some ⟨w.heap.size, 0, none⟩) 0 (8 * 1)) (w.alloc (.cells (Array.replicate (8 * 1) (.int .u8 0)) 5)) := fun _ => by kernel_rfl
theorem mk16 : ∀ w, (Instr.makeSlice 28 (.int .i64 0) (.int .i64 (8 * ((2 : Nat) : Int)))).run Tryd.prog w = .ok (.slice (some ⟨w.heap.size, 0, none⟩) 0 (8 * 2)) (w.alloc (.cells (Array.replicate (8 * 2) (.int .u8 0)) 5)) := fun _ => by kernel_rfl
/-- The eight bytes of one number, the sixteen of two. -/
def eight (x : Int) : List Int := bytesTo [x] 8
def sixteen (x y : Int) : List Int := bytesTo [x, y] 16
theorem eight_len (x : Int) : (eight x).length = 8 := bytesTo_len _ _
theorem sixteen_len (x y : Int) : (sixteen x y).length = 16 := bytesTo_len _ _
theorem word1 (b : Nat) (x : Int) (hx : 0 ≤ x ∧ x < 18446744073709551616) (w : World) (hbw : b < w.heap.size) (h0 : w.cell? ⟨b, 0, none⟩ = some (.int .u64 x)) :
    Calls Tryd.prog 56 #[.slice (some ⟨b, 0, none⟩) 1 1] w fun e w' => ∃ v, e = .returned v ∧ w'.ownsRow w.heap.size 5 1 v 8 ((eight x).map (Value.int .u8)) ∧ Below w.heap.size w w' :=
  wordWrite_any b 1 [x] rfl (by omega) (by intro z hz; simp at hz; subst hz; exact hx) w hbw (by
    intro i hi
    match i, hi with
    | 0, _ => simpa using h0) mk8
theorem word2 (b : Nat) (x y : Int) (hx : 0 ≤ x ∧ x < 18446744073709551616) (hy : 0 ≤ y ∧ y < 18446744073709551616) (w : World) (hbw : b < w.heap.size) (h0 : w.cell? ⟨b, 0, none⟩ = some (.int .u64 x)) (h1 : w.cell? ⟨b, 1, none⟩ = some (.int .u64 y)) :
    Calls Tryd.prog 56 #[.slice (some ⟨b, 0, none⟩) 2 2] w fun e w' => ∃ v, e = .returned v ∧ w'.ownsRow w.heap.size 5 1 v 16 ((sixteen x y).map (Value.int .u8)) ∧ Below w.heap.size w w' :=
  wordWrite_any b 2 [x, y] rfl (by omega) (by intro z hz; simp at hz; rcases hz with rfl | rfl <;> assumption) w hbw (by
    intro i hi
    match i, hi with
    | 0, _ => simpa using h0
    | 1, _ => simpa using h1) mk16

end Go.Proofs.YtahigmjpeicemaaDoor

/- The contract of word.Read: the number that eight bytes tell. -/
namespace Go.Proofs.YtahigmjpeicemaaDoor
open Go.RowKit

/-- The number that bytes tell, the greatest first. -/
def beval (l : List Int) : Int := l.foldl (fun n x => n * 256 + x) 0
theorem beval_snoc (l : List Int) (x : Int) : beval (l ++ [x]) = beval l * 256 + x := by simp [beval, List.foldl_append]
theorem beval_take (l : List Int) (k : Nat) (h : k < l.length) : beval (l.take (k + 1)) = beval (l.take k) * 256 + l.getD k 0 := by
  rw [take_snocI l k h, beval_snoc]
theorem beval_bd (l : List Int) (hl : ∀ x ∈ l, 0 ≤ x ∧ x ≤ 255) : ∀ k : Nat, 0 ≤ beval (l.take k) ∧ beval (l.take k) < 256 ^ k := by
  intro k
  induction k with
  | zero => simp [beval]
  | succ k ih =>
    by_cases h : k < l.length
    · rw [beval_take l k h]
      have hx := hl _ (getD_mem l k h)
      obtain ⟨i1, i2⟩ := ih
      have e : (256 : Int) ^ (k + 1) = 256 ^ k * 256 := Int.pow_succ ..
      rw [e]
      generalize (256 : Int) ^ k = q at *
      omega
    · have e : l.take (k + 1) = l.take k := by rw [List.take_of_length_le (by omega), List.take_of_length_le (by omega)]
      rw [e]
      have e2 : (256 : Int) ^ (k + 1) = 256 ^ k * 256 := Int.pow_succ ..
      rw [e2]
      generalize (256 : Int) ^ k = q at *
      omega
theorem or_byte (n x : Int) (n1 : 0 ≤ n) (n2 : n < 72057594037927936) (x1 : 0 ≤ x) (x2 : x ≤ 255) : bits .or .u64 (n * 256) x = n * 256 + x := by
  obtain ⟨a, rfl⟩ := Int.eq_ofNat_of_zero_le n1
  obtain ⟨b, rfl⟩ := Int.eq_ofNat_of_zero_le x1
  have e : (a : Int) * 256 = ((a * 256 : Nat) : Int) := by omega
  rw [e, bits_or_u64_nat _ _ (by omega) (by omega), nat_join 8 _ _ (by omega) (by omega)]
  omega

set_option maxRecDepth 100000 in
set_option maxHeartbeats 1000000 in
theorem wordRead_any (b off cap : Nat) (zs : List Int) (hl : zs.length = 8) (hz : ∀ x ∈ zs, 0 ≤ x ∧ x ≤ 255) (w : World)
    (hc : ∀ i, i < 8 → w.cell? ⟨b, off + i, none⟩ = some (.int .u8 (zs.getD i 0))) :
    Calls Tryd.prog 77 #[.slice (some ⟨b, off, none⟩) 8 cap] w fun e w' => e = .returned (.int .u64 (beval zs)) ∧ w' = w := by
  go_enter Tryd.func77, Tryd.ntmps77
  go_wp2_with fail
  go_loop [3, 8] (fun n i => ∃ k : Nat, k ≤ 8 ∧ i = .int .i64 k ∧ n = .int .u64 (beval (zs.take k))) (fun _ i => 8 - (intOf i).toNat)
  case atStart => exact ⟨0, by omega, rfl, rfl⟩
  case round =>
    obtain ⟨k, hk, rfl, rfl⟩ := hrel
    by_cases hlt : k < 8
    · have hcell := hc k hlt
      have hx := hz _ (getD_mem zs k (by omega))
      have HT : Hid _ := beval_take zs k (by omega)
      have hb := beval_bd zs hz k
      have hq : (256 : Int) ^ k ≤ 72057594037927936 := by
        have : (256 : Int) ^ k ≤ 256 ^ 7 := by
          have h7 : (256 : Nat) ^ k ≤ 256 ^ 7 := Nat.pow_le_pow_right (by omega) (by omega)
          exact_mod_cast h7
        simpa using this
      generalize zs.getD k 0 = x at *
      generalize beval (zs.take k) = n at *
      generalize (256 : Int) ^ k = q at *
      obtain ⟨n1, n2⟩ := hb
      obtain ⟨x1, x2⟩ := hx
      have n3 : n < 72057594037927936 := by omega
      have hor := or_byte n x n1 n3 x1 x2
      clear hc hq n2
      go_wp2_with fail
      go_round
      case rel => exact ⟨k + 1, by omega, by go_num, by rw [HT.out]⟩
      case measure => simp [intOf]; omega
    · have hke : k = 8 := by omega
      subst hke
      have e : zs.take 8 = zs := List.take_of_length_le (by omega)
      clear hc
      go_wp2_with fail
      go_ret
      exact ⟨rfl, rfl⟩
end Go.Proofs.YtahigmjpeicemaaDoor

/- The contracts of code.Number and ReadNumber. -/
namespace Go.Proofs.YtahigmjpeicemaaDoor
open Go.RowKit

theorem xor_top (a : Nat) (ha : a < 18446744073709551616) : a ^^^ 9223372036854775808 = (a + 9223372036854775808) % 18446744073709551616 := by
  have e1 : (9223372036854775808 : Nat) = 2 ^ 63 := by decide
  have e2 : (18446744073709551616 : Nat) = 2 ^ 64 := by decide
  rw [e1, e2, Nat.add_comm a]
  rw [e2] at ha
  apply Nat.eq_of_testBit_eq
  intro j
  rw [Nat.testBit_xor, Nat.testBit_mod_two_pow, Nat.testBit_two_pow]
  rcases Nat.lt_trichotomy j 63 with h | h | h
  · rw [Nat.testBit_two_pow_add_gt h]
    have h1 : decide (j < 64) = true := by simp; omega
    have h2 : decide (63 = j) = false := by simp; omega
    rw [h1, h2]; simp
  · subst h
    rw [Nat.testBit_two_pow_add_eq]; simp
  · have h1 : decide (j < 64) = false := by simp; omega
    have h2 : decide (63 = j) = false := by simp; omega
    have h3 : a.testBit j = false := Nat.testBit_lt_two_pow (Nat.lt_of_lt_of_le ha (Nat.pow_le_pow_right (by omega) (by omega)))
    rw [h1, h2, h3]; simp
theorem bits_top (v : Int) (h1 : -9223372036854775808 ≤ v) (h2 : v ≤ 9223372036854775807) : bits .xor .u64 (IntKind.u64.wrap v) 9223372036854775808 = v + 9223372036854775808 := by
  rw [IntKind.wrap_u64]
  obtain ⟨a, ha⟩ := Int.eq_ofNat_of_zero_le (show 0 ≤ v % 18446744073709551616 by omega)
  rw [ha]
  have e : (9223372036854775808 : Int) = ((9223372036854775808 : Nat) : Int) := rfl
  rw [e, bits_xor_u64_nat a _ (by omega) (by omega), xor_top a (by omega)]
  omega
theorem bits_topn (n : Int) (h1 : 0 ≤ n) (h2 : n ≤ 18446744073709551615) : IntKind.i64.wrap (bits .xor .u64 n 9223372036854775808) = n - 9223372036854775808 := by
  obtain ⟨a, ha⟩ := Int.eq_ofNat_of_zero_le h1
  subst ha
  have e : (9223372036854775808 : Int) = ((9223372036854775808 : Nat) : Int) := rfl
  rw [e, bits_xor_u64_nat a _ (by omega) (by omega), xor_top a (by omega), IntKind.wrap_i64]
  omega

/-- The eight bytes of a number in order. -/
def nb (v : Int) : List UInt8 := (eight (v + 9223372036854775808)).map fun z => UInt8.ofNat z.toNat
theorem nb_len (v : Int) : (nb v).length = 8 := by simp [nb, eight_len]
theorem byteOf_bd (x : Int) (i : Nat) : 0 ≤ byteOf x i ∧ byteOf x i ≤ 255 := by unfold byteOf; omega
theorem nb_cells (v : Int) : (eight (v + 9223372036854775808)).map (Value.int .u8) = (nb v).map bc := by
  unfold nb
  rw [List.map_map]
  apply List.map_congr_left
  intro z hz
  have hb : 0 ≤ z ∧ z ≤ 255 := by
    unfold eight bytesTo at hz
    obtain ⟨j, _, rfl⟩ := List.mem_map.1 hz
    exact byteOf_bd _ _
  obtain ⟨a, rfl⟩ := Int.eq_ofNat_of_zero_le hb.1
  show Value.int .u8 (a : Int) = bc (UInt8.ofNat a)
  rw [bc_of (by omega)]

set_option maxRecDepth 100000 in
set_option maxHeartbeats 1000000 in
theorem number_any (v : Int) (h1 : -9223372036854775808 ≤ v) (h2 : v ≤ 9223372036854775807) (w : World) :
    Calls Tryd.prog 24 #[.int .i64 v] w fun e w' => ∃ x, e = .returned x ∧ w'.ownsRow w.heap.size 5 1 x 8 ((nb v).map bc) ∧ Below w.heap.size w w' := by
  have ht := bits_top v h1 h2
  have HB : Hid (0 ≤ v + 9223372036854775808 ∧ v + 9223372036854775808 < 18446744073709551616) := by unfold Hid; omega
  clear h1 h2
  go_enter Tryd.func24, Tryd.ntmps24
  go_wp2_with fail
  refine (word1 _ (v + 9223372036854775808) HB.out _ (by simp) (by simp [go_sem])).mono ?_
  rintro e w1 ⟨x, rfl, hown, hb⟩
  rw [nb_cells] at hown
  have HO : Hid (w1.ownsRow w.heap.size 5 1 x 8 ((nb v).map bc)) := own_mono hown (by simp)
  have HBL : Hid (Below w.heap.size w w1) := ((Below.refl _ _).alloc (Nat.le_refl _) _).trans (hb.mono (by simp))
  clear hown hb
  go_wp2_with fail
  go_ret
  exact ⟨_, rfl, HO.out, HBL.out⟩

/-- What ReadNumber tells. -/
def rnF (l : List UInt8) : Int × Int × Int := if l.length < 8 then (0, 0, 10) else (beval ((l.take 8).map fun x => (x.toNat : Int)) - 9223372036854775808, 8, 0)
theorem beval8 (zs : List Int) (hl : zs.length = 8) (hz : ∀ x ∈ zs, 0 ≤ x ∧ x ≤ 255) : 0 ≤ beval zs ∧ beval zs ≤ 18446744073709551615 := by
  have h := beval_bd zs hz 8
  rw [List.take_of_length_le (by omega)] at h
  have e : (256 : Int) ^ 8 = 18446744073709551616 := by decide
  rw [e] at h
  omega
set_option maxRecDepth 100000 in
set_option maxHeartbeats 1000000 in
theorem readNumber_any (v : Value) (l : List UInt8) (w : World) (h : Reads w v l) :
    Calls Tryd.prog 58 #[v] w fun e w' => e = .returned (.tuple #[.int .i64 (rnF l).1, .int .i64 (rnF l).2.1, .int .i64 (rnF l).2.2]) ∧ Below w.heap.size w w' := by
  by_cases h8 : l.length < 8
  · have e : rnF l = (0, 0, 10) := by unfold rnF; rw [if_pos h8]
    rw [e]
    obtain ⟨a, cap, rfl, _⟩ := h.form
    have i1 : (l.length : Int) < 8 := by omega
    clear h e
    go_enter Tryd.func58, Tryd.ntmps58
    go_wp2_with fail
    go_ret3
    exact ⟨rfl, Below.refl _ _⟩
  · have e : rnF l = (beval ((l.take 8).map fun x => (x.toNat : Int)) - 9223372036854775808, 8, 0) := by unfold rnF; rw [if_neg h8]
    rw [e]
    rcases h with ⟨rfl, a, cap, rfl, _⟩ | ⟨b, off, cap, rfl, g2, g3, g4, g5, g6⟩
    · simp at h8
    have hlen : ((l.take 8).map fun x => (x.toNat : Int)).length = 8 := by simp; omega
    have hz : ∀ x ∈ ((l.take 8).map fun x => (x.toNat : Int)), 0 ≤ x ∧ x ≤ 255 := by
      intro x hx
      obtain ⟨y, _, rfl⟩ := List.mem_map.1 hx
      have := UInt8.toNat_lt y
      omega
    have hcc : ∀ i, i < 8 → w.cell? ⟨b, off + i, none⟩ = some (.int .u8 (((l.take 8).map fun x => (x.toNat : Int)).getD i 0)) := by
      intro i hi
      rw [g6 i (by omega)]
      unfold bc
      have e : ((l.take 8).map fun x => (x.toNat : Int)).getD i 0 = (l[i]'(by omega)).toNat := by
        have hl' : i < l.length := by omega
        simp [hi, List.getElem?_eq_getElem hl']
      rw [e]
    have hbe := beval8 _ hlen hz
    have ht := bits_topn _ hbe.1 hbe.2
    have HR : Hid (∀ cap w', w'.cell? = w.cell? → Calls Tryd.prog 77 #[.slice (some ⟨b, off, none⟩) 8 cap] w' fun e w2 => e = .returned (.int .u64 (beval ((l.take 8).map fun x => (x.toNat : Int)))) ∧ w2 = w') := by
      intro cap w' hw'
      exact wordRead_any b off cap _ hlen hz w' (by intro i hi; rw [hw']; exact hcc i hi)
    clear e hcc hz hlen hbe
    generalize beval ((l.take 8).map fun x => (x.toNat : Int)) = n at *
    have i1 : ¬ (l.length : Int) < 8 := by omega
    have i2 : (8 : Int) ≤ (cap : Int) := by omega
    have i3 : 8 ≤ cap := by omega
    clear g6 h8
    go_enter Tryd.func58, Tryd.ntmps58
    go_wp2_with fail
    refine (HR.out _ _ rfl).mono ?_
    rintro e w1 ⟨rfl, hw1⟩
    subst w1
    go_wp2_with fail
    go_ret3
    exact ⟨rfl, Below.refl _ _⟩
end Go.Proofs.YtahigmjpeicemaaDoor

/- What the fixed calls of layer 4's 'alive' come to: true. -/
namespace Go.Proofs.YtahigmjpeicemaaDoor
open Go.RowKit

end Go.Proofs.YtahigmjpeicemaaDoor
