/- Pl W1 A1 A2 C0 S2 MG0 MG1 OB CP0 ME1 S1 MG2 MG3 RH, joined. -/
import Derived.Test.YtbadjigfcncfcaaRows
import Derived.WalkKit
import Derived.Laws.Bits64
import Derived.WalkSpells
import Derived.WalkLawsBesides
import Derived.Laws.Externs
import Derived.Lib.Mul64
import Derived.Laws.Bits64b
import Derived.Deep.RegionHeld3
import Derived.BigQuiet
import Derived.Deep.QuietTactic
import Derived.WalkMore
import Derived.Below
import Derived.Laws.AppendOwn
import Derived.Laws.IdiomStrings
import Derived.Laws.BytesString
import Derived.Laws.Strings
import Derived.Laws.AppendOwnNone
import Derived.Lib.Bytealg
import Derived.ProofKit
import Derived.OpenShut
import Derived.Lib.SmallJoins
import Derived.Laws.CopyOwn
import Derived.Laws.OwnMore
import Derived.Deep.Slices
import Derived.BigRegion
/- Plain arithmetic of numbers of 128 binary digits, told by their upper half (with sign) and lower half: no program in sight. -/
namespace Go.Proofs.Ytbadjigfcncfcaa
open Go.RowKit

/-- The lower half of a number, modulo 2^128. -/
def lo (x : Int) : Int := x % 18446744073709551616
/-- The upper half of a number, modulo 2^128, with its sign. -/
def hi (x : Int) : Int := (x / 18446744073709551616 + 9223372036854775808) % 18446744073709551616 - 9223372036854775808

theorem lo_def (x : Int) : lo x = x % 18446744073709551616 := rfl
theorem hi_def (x : Int) : hi x = (x / 18446744073709551616 + 9223372036854775808) % 18446744073709551616 - 9223372036854775808 := rfl
theorem lo_bd (x : Int) : 0 ≤ lo x ∧ lo x < 18446744073709551616 := by unfold lo; omega
theorem hi_bd (x : Int) : -9223372036854775808 ≤ hi x ∧ hi x < 9223372036854775808 := by unfold hi; omega

/-- Each pair of halves is one number's that can be told. -/
theorem of_halves (h l : Int) (h1 : -9223372036854775808 ≤ h) (h2 : h ≤ 9223372036854775807) (l1 : 0 ≤ l) (l2 : l ≤ 18446744073709551615) :
    ∃ x : Int, -170141183460469231731687303715884105728 ≤ x ∧ x < 170141183460469231731687303715884105728 ∧ h = hi x ∧ l = lo x := by
  refine ⟨h * 18446744073709551616 + l, by omega, by omega, ?_, ?_⟩
  · unfold hi; omega
  · unfold lo; omega
theorem halves_back (x : Int) (h1 : -170141183460469231731687303715884105728 ≤ x) (h2 : x < 170141183460469231731687303715884105728) : hi x * 18446744073709551616 + lo x = x := by
  unfold hi lo; omega
theorem hi_small (v : Int) (h1 : -9223372036854775808 ≤ v) (h2 : v ≤ 9223372036854775807) : v / 9223372036854775808 = hi v := by
  unfold hi; omega
theorem add_lo (x y : Int) : (lo x + lo y) % 18446744073709551616 = lo (x + y) := by unfold lo; omega
theorem add_hi (x y : Int) : hi x + hi y + (lo x + lo y) / 18446744073709551616 = x / 18446744073709551616 + y / 18446744073709551616 + (lo x + lo y) / 18446744073709551616 + 18446744073709551616 * ((hi x - x / 18446744073709551616) / 18446744073709551616 + (hi y - y / 18446744073709551616) / 18446744073709551616) := by
  unfold hi lo; omega
/-- Equal halves: equal modulo 2^128. -/
theorem halves_inj (x y : Int) (h : hi x = hi y) (l : lo x = lo y) : (x - y) % 340282366920938463463374607431768211456 = 0 := by
  unfold hi at h; unfold lo at l; omega
theorem halves_mod (x y : Int) (h : (x - y) % 340282366920938463463374607431768211456 = 0) : hi x = hi y ∧ lo x = lo y := by
  unfold hi lo; omega
/-- The sum's upper half, as two carries make it. -/
theorem add_hi' (x y : Int) :
    ((hi x % 18446744073709551616 + hi y % 18446744073709551616 + (lo x + lo y) / 18446744073709551616) % 18446744073709551616 + 9223372036854775808) % 18446744073709551616 - 9223372036854775808 = hi (x + y) := by
  unfold hi lo; omega
/-- -1, 0, 1. -/
def sgn (x y : Int) : Int := if x < y then -1 else if x = y then 0 else 1
/-- A sum of a list. -/
def sumI : List Int → Int
  | [] => 0
  | a :: l => a + sumI l
theorem sumI_snoc (l : List Int) (a : Int) : sumI (l ++ [a]) = sumI l + a := by
  induction l with
  | nil => simp [sumI]
  | cons b l ih => simp [sumI, ih]; omega

theorem ones_xor (v : BitVec 64) : (BitVec.ofInt 64 (-1) ^^^ v).toNat = 18446744073709551615 - v.toNat := by
  have e : BitVec.ofInt 64 (-1) = BitVec.allOnes 64 := by decide
  rw [e, BitVec.allOnes_xor, BitVec.toNat_not]
theorem bits_not_i64 (h : Int) (h1 : -9223372036854775808 ≤ h) (h2 : h < 9223372036854775808) : bits .xor .i64 (-1) h = -1 - h := by
  show IntKind.i64.wrap ((BitVec.ofInt 64 (-1) ^^^ BitVec.ofInt 64 h).toNat : Int) = _
  rw [ones_xor, IntKind.wrap_i64]
  have e : (BitVec.ofInt 64 h).toNat = (h % 18446744073709551616).toNat := by rw [BitVec.toNat_ofInt]; rfl
  rw [e]
  omega
theorem bits_not_u64 (h : Int) (h1 : 0 ≤ h) (h2 : h < 18446744073709551616) : bits .xor .u64 IntKind.u64.max h = 18446744073709551615 - h := by
  show IntKind.u64.wrap ((BitVec.ofInt 64 IntKind.u64.max ^^^ BitVec.ofInt 64 h).toNat : Int) = _
  have e0 : BitVec.ofInt 64 IntKind.u64.max = BitVec.ofInt 64 (-1) := by decide
  rw [e0, ones_xor, IntKind.wrap_u64]
  have e : (BitVec.ofInt 64 h).toNat = (h % 18446744073709551616).toNat := by rw [BitVec.toNat_ofInt]; rfl
  rw [e]
  omega
end Go.Proofs.Ytbadjigfcncfcaa

/- The contracts of wide's small functions (Of, carried, Add, Minus) over the translated program: each returns the numbers that plain arithmetic names, and nothing that was there is changed. -/
namespace Go.Proofs.Ytbadjigfcncfcaa
open Go.RowKit

theorem add64_0 (x y : Int) (hx : 0 ≤ x) (hy : 0 ≤ y) (w : World) : (callFunc 63 #[.int .u64 x, .int .u64 y, .int .u64 0]).run Try.prog w =
    .ok (.value (.tuple #[.int .u64 ((x + y) % 18446744073709551616), .int .u64 ((x + y) / 18446744073709551616)])) w := by
  rw [run_callFunc_extern Try.func63 (by kernel_rfl) (by kernel_rfl) (by kernel_rfl) (e := add64Entry) (by kernel_rfl), run_add64 x y 0 hx hy (by omega) (by omega)]
  simp

set_option maxHeartbeats 400000 in
theorem of_exact (v : Int) (h1 : -9223372036854775808 ≤ v) (h2 : v ≤ 9223372036854775807) (w : World) :
    Calls Try.prog 44 #[.int .i64 v] w fun e w' => e = .returned (.agg #[.int .i64 (hi v), .int .u64 (lo v)]) ∧ ∃ c, w' = w.alloc (.cells c 51) := by
  rw [← hi_small v h1 h2]
  have e2 : lo v = IntKind.u64.wrap v := by rw [IntKind.wrap_u64]; rfl
  rw [e2]
  go_enter Try.func44, Try.ntmps44
  go_wp2
  exact bodyPost_ret (v := .agg #[.int .i64 (v / 9223372036854775808), .int .u64 (IntKind.u64.wrap v)]) (by simp [results, Try.results44, go_sem]) rfl ⟨rfl, _, rfl⟩
theorem of_any (v : Int) (h1 : -9223372036854775808 ≤ v) (h2 : v ≤ 9223372036854775807) (w : World) :
    Calls Try.prog 44 #[.int .i64 v] w fun e w' => e = .returned (.agg #[.int .i64 (hi v), .int .u64 (lo v)]) ∧ Below w.heap.size w w' :=
  (of_exact v h1 h2 w).mono fun _ _ ⟨h, _, hw⟩ => ⟨h, hw ▸ (Below.refl _ _).alloc (Nat.le_refl _) _⟩

theorem take_snocI (l : List Int) (k : Nat) (h : k < l.length) : l.take (k + 1) = l.take k ++ [l.getD k 0] := by
  rw [List.take_succ_eq_append_getElem h]; simp [List.getD, h]
theorem sumI_take (l : List Int) (k : Nat) (h : k < l.length) : sumI (l.take (k + 1)) = sumI (l.take k) + l.getD k 0 := by
  rw [take_snocI l k h, sumI_snoc]
theorem sumI_bd (l : List Int) (hl : ∀ x ∈ l, 0 ≤ x ∧ x < 18446744073709551616) : 0 ≤ sumI l ∧ sumI l ≤ 18446744073709551615 * l.length := by
  induction l with
  | nil => simp [sumI]
  | cons a l ih =>
    have := ih (fun x hx => hl x (List.mem_cons_of_mem _ hx))
    have h2 := hl a (List.mem_cons_self ..)
    simp [sumI]; omega

theorem getD_mem (l : List Int) (k : Nat) (h : k < l.length) : l.getD k 0 ∈ l := by
  have e : l.getD k 0 = l[k] := by simp [List.getD, h]
  rw [e]; exact List.getElem_mem h

set_option maxHeartbeats 400000 in
theorem carried_any (b : Nat) (zs : List Int) (hn : zs.length ≤ 1000) (hz : ∀ x ∈ zs, 0 ≤ x ∧ x < 18446744073709551616) (w : World)
    (hc : ∀ i, i < zs.length → w.cell? ⟨b, i, none⟩ = some (.int .u64 (zs.getD i 0))) :
    Calls Try.prog 64 #[.slice (some ⟨b, 0, none⟩) zs.length zs.length] w fun e w' => e = .returned (.tuple #[.int .u64 (sumI zs % 18446744073709551616), .int .u64 (sumI zs / 18446744073709551616)]) ∧ w' = w := by
  go_enter Try.func64, Try.ntmps64
  go_wp2
  go_loop [2, 3, 9] (fun s c i => ∃ k : Nat, k ≤ zs.length ∧ i = .int .i64 k ∧ s = .int .u64 (sumI (zs.take k) % 18446744073709551616) ∧ c = .int .u64 (sumI (zs.take k) / 18446744073709551616)) (fun _ _ i => zs.length - (intOf i).toNat)
  case atStart => exact ⟨0, Nat.zero_le _, rfl, rfl, rfl⟩
  case round =>
    obtain ⟨k, hk, rfl, rfl, rfl⟩ := hrel
    by_cases hlt : k < zs.length
    · have hcell := hc k hlt
      have hb := sumI_bd (zs.take k) (fun x hx => hz x (List.mem_of_mem_take hx))
      have hl : (zs.take k).length ≤ k := List.length_take_le _ _
      have hm : 0 ≤ zs.getD k 0 ∧ zs.getD k 0 < 18446744073709551616 := hz _ (getD_mem zs k hlt)
      have HS : Hid (sumI (zs.take (k + 1)) = sumI (zs.take k) + zs.getD k 0) := sumI_take zs k hlt
      clear hc
      generalize zs.getD k 0 = z at *
      generalize sumI (zs.take k) = s at *
      have hs0 : 0 ≤ s % 18446744073709551616 := by omega
      go_wp2_with (simp only [add64_0 _ _ hs0 hm.1])
      go_round
      case rel => exact ⟨k + 1, by omega, by go_num, by rw [HS.out], by rw [HS.out]; exact congrArg (Value.int .u64) (by omega)⟩
      case measure => simp [intOf]; omega
    · have hke : k = zs.length := by omega
      go_wp2
      go_ret2
      exact ⟨rfl, rfl⟩


theorem carried2 (b : Nat) (x y : Int) (hx : 0 ≤ x ∧ x < 18446744073709551616) (hy : 0 ≤ y ∧ y < 18446744073709551616) (w : World) (h0 : w.cell? ⟨b, 0, none⟩ = some (.int .u64 x)) (h1 : w.cell? ⟨b, 1, none⟩ = some (.int .u64 y)) :
    Calls Try.prog 64 #[.slice (some ⟨b, 0, none⟩) 2 2] w fun e w' => e = .returned (.tuple #[.int .u64 ((x + y) % 18446744073709551616), .int .u64 ((x + y) / 18446744073709551616)]) ∧ w' = w := by
  have h := carried_any b [x, y] (by simp) (by intro z hz; simp at hz; rcases hz with rfl | rfl <;> assumption) w (by
    intro i hi
    match i, hi with
    | 0, _ => simpa using h0
    | 1, _ => simpa using h1)
  have e : sumI [x, y] = x + y := by simp [sumI]
  rw [e] at h
  exact h
theorem carried3 (b : Nat) (x y z : Int) (hx : 0 ≤ x ∧ x < 18446744073709551616) (hy : 0 ≤ y ∧ y < 18446744073709551616) (hz : 0 ≤ z ∧ z < 18446744073709551616) (w : World) (h0 : w.cell? ⟨b, 0, none⟩ = some (.int .u64 x)) (h1 : w.cell? ⟨b, 1, none⟩ = some (.int .u64 y)) (h2 : w.cell? ⟨b, 2, none⟩ = some (.int .u64 z)) :
    Calls Try.prog 64 #[.slice (some ⟨b, 0, none⟩) 3 3] w fun e w' => e = .returned (.tuple #[.int .u64 ((x + y + z) % 18446744073709551616), .int .u64 ((x + y + z) / 18446744073709551616)]) ∧ w' = w := by
  have h := carried_any b [x, y, z] (by simp) (by intro u hu; simp at hu; rcases hu with rfl | rfl | rfl <;> assumption) w (by
    intro i hi
    match i, hi with
    | 0, _ => simpa using h0
    | 1, _ => simpa using h1
    | 2, _ => simpa using h2)
  have e : sumI [x, y, z] = x + y + z := by simp [sumI]; omega
  rw [e] at h
  exact h

set_option maxHeartbeats 400000 in
theorem add_exact (x y : Int) (w : World) :
    Calls Try.prog 40 #[.agg #[.int .i64 (hi x), .int .u64 (lo x)], .agg #[.int .i64 (hi y), .int .u64 (lo y)]] w fun e w' => e = .returned (.agg #[.int .i64 (hi (x + y)), .int .u64 (lo (x + y))]) ∧ ∃ c1 c2 c3 c4 c5, w' = ((((w.alloc (.cells c1 51)).alloc (.cells c2 51)).alloc (.cells c3 51)).alloc (.cells c4 49)).alloc (.cells c5 49) := by
  have lx := lo_bd x; have ly := lo_bd y; have hx := hi_bd x; have hy := hi_bd y
  have EL : Hid ((lo x + lo y) % 18446744073709551616 = lo (x + y)) := add_lo x y
  have EH : Hid (((hi x % 18446744073709551616 + hi y % 18446744073709551616 + (lo x + lo y) / 18446744073709551616) % 18446744073709551616 + 9223372036854775808) % 18446744073709551616 - 9223372036854775808 = hi (x + y)) := add_hi' x y
  go_enter Try.func40, Try.ntmps40
  go_wp2_with fail
  refine (carried2 _ _ _ lx ly _ (by simp [go_sem]) (by simp [go_sem])).mono ?_
  rintro e w' ⟨rfl, rfl⟩
  go_wp2_with fail
  simp only [IntKind.wrap_u64]
  refine (carried3 _ (hi x % 18446744073709551616) (hi y % 18446744073709551616) ((lo x + lo y) / 18446744073709551616) (by omega) (by omega) (by omega) _ (by simp [go_sem]) (by simp [go_sem]) (by simp [go_sem])).mono ?_
  rintro e w' ⟨rfl, rfl⟩
  go_wp2_with fail
  refine bodyPost_ret (v := .agg #[.int .i64 (wrap64 ((hi x % 18446744073709551616 + hi y % 18446744073709551616 + (lo x + lo y) / 18446744073709551616) % 18446744073709551616)), .int .u64 ((lo x + lo y) % 18446744073709551616)]) (by simp [results, Try.results40, go_sem]) rfl ⟨?_, ?_⟩
  · unfold wrap64; rw [EL.out, EH.out]
  · exact ⟨_, _, _, _, _, rfl⟩
theorem add_any (x y : Int) (w : World) :
    Calls Try.prog 40 #[.agg #[.int .i64 (hi x), .int .u64 (lo x)], .agg #[.int .i64 (hi y), .int .u64 (lo y)]] w fun e w' => e = .returned (.agg #[.int .i64 (hi (x + y)), .int .u64 (lo (x + y))]) ∧ Below w.heap.size w w' :=
  (add_exact x y w).mono fun _ _ ⟨h, _, _, _, _, _, hw⟩ => ⟨h, hw ▸ (((((Below.refl _ _).alloc (by simp) _).alloc (by simp) _).alloc (by simp; omega) _).alloc (by simp; omega) _).alloc (by simp; omega) _⟩

end Go.Proofs.Ytbadjigfcncfcaa

/- The contracts of agg.together, chosen, Merge. -/
namespace Go.Proofs.Ytbadjigfcncfcaa
open Go.RowKit

/-- What is known of facts. -/
structure Ag where
  c : Int
  o : Bool
  s : Int
  mn : Int
  mx : Int

def cntF (a b : Int) : Int := if a + b < 18446744073709551616 then a + b else 18446744073709551615
def ovF (a b : Int) : Bool := decide (18446744073709551616 ≤ a + b)
def minF (a b : Int) : Int := if b < a then b else a
def maxF (a b : Int) : Int := if a < b then b else a
def mrg (a b : Ag) : Ag := if a.c = 0 then b else if b.c = 0 then a else ⟨cntF a.c b.c, ovF a.c b.c || a.o || b.o, a.s + b.s, minF a.mn b.mn, maxF a.mx b.mx⟩

set_option maxHeartbeats 400000 in
theorem together_any (a b : Int) (a1 : 0 ≤ a) (a2 : a < 18446744073709551616) (b1 : 0 ≤ b) (b2 : b < 18446744073709551616) (w : World) :
    Calls Try.prog 39 #[.int .u64 a, .int .u64 b] w fun e w' => e = .returned (.tuple #[.int .u64 (cntF a b), .bool (ovF a b)]) ∧ w' = w := by
  by_cases h : a + b < 18446744073709551616
  · have e1 : cntF a b = a + b := by unfold cntF; rw [if_pos h]
    have e2 : ovF a b = false := by unfold ovF; simp; omega
    rw [e1, e2]
    have q0 : (a + b) / 18446744073709551616 = 0 := by omega
    have q1 : (a + b) % 18446744073709551616 = a + b := by omega
    go_enter Try.func39, Try.ntmps39
    go_wp2_with (simp only [add64_0 _ _ a1 b1])
    go_ret2
    exact ⟨rfl, rfl⟩
  · have e1 : cntF a b = 18446744073709551615 := by unfold cntF; rw [if_neg h]
    have e2 : ovF a b = true := by unfold ovF; simp; omega
    rw [e1, e2]
    have q0 : (a + b) / 18446744073709551616 = 1 := by omega
    generalize hq : (a + b) % 18446744073709551616 = r at *
    have HQ : Hid ((a + b) % 18446744073709551616 = r) := hq
    go_enter Try.func39, Try.ntmps39
    go_wp2_with (simp only [add64_0 _ _ a1 b1])
    go_ret2
    exact ⟨rfl, rfl⟩

set_option maxHeartbeats 400000 in
theorem chosen_min (a b : Int) (w : World) :
    Calls Try.prog 41 #[.int .i64 a, .int .i64 b, .func (.func 42) #[] #[]] w fun e w' => e = .returned (.int .i64 (minF a b)) ∧ w' = w := by
  by_cases h : b < a
  · have e1 : minF a b = b := by unfold minF; rw [if_pos h]
    rw [e1]
    go_enter Try.func41, Try.ntmps41
    go_wp2
    go_ret
    exact ⟨rfl, rfl⟩
  · have e1 : minF a b = a := by unfold minF; rw [if_neg h]
    rw [e1]
    go_enter Try.func41, Try.ntmps41
    go_wp2
    go_ret
    exact ⟨rfl, rfl⟩
set_option maxHeartbeats 400000 in
theorem chosen_max (a b : Int) (w : World) :
    Calls Try.prog 41 #[.int .i64 a, .int .i64 b, .func (.func 43) #[] #[]] w fun e w' => e = .returned (.int .i64 (maxF a b)) ∧ w' = w := by
  by_cases h : a < b
  · have e1 : maxF a b = b := by unfold maxF; rw [if_pos h]
    rw [e1]
    go_enter Try.func41, Try.ntmps41
    go_wp2
    go_ret
    exact ⟨rfl, rfl⟩
  · have e1 : maxF a b = a := by unfold maxF; rw [if_neg h]
    rw [e1]
    go_enter Try.func41, Try.ntmps41
    go_wp2
    go_ret
    exact ⟨rfl, rfl⟩

set_option maxRecDepth 100000 in
set_option maxHeartbeats 1000000 in
theorem merge_left (a b : Ag) (h : a.c = 0) (w : World) :
    Calls Try.prog 21 #[.agg #[.int .u64 a.c, .bool a.o, .int .i64 (hi a.s), .int .u64 (lo a.s), .int .i64 a.mn, .int .i64 a.mx], .agg #[.int .u64 b.c, .bool b.o, .int .i64 (hi b.s), .int .u64 (lo b.s), .int .i64 b.mn, .int .i64 b.mx]] w fun e w' => e = .returned (.agg #[.int .u64 (mrg a b).c, .bool (mrg a b).o, .int .i64 (hi (mrg a b).s), .int .u64 (lo (mrg a b).s), .int .i64 (mrg a b).mn, .int .i64 (mrg a b).mx]) ∧ Below w.heap.size w w' := by
  have e : mrg a b = b := by unfold mrg; rw [if_pos h]
  rw [e]
  have hb : (a.c == 0) = true := by simp [h]
  clear e h
  go_enter Try.func21, Try.ntmps21
  go_wp2_with fail
  refine bodyPost_ret (v := .agg #[.int .u64 b.c, .bool b.o, .int .i64 (hi b.s), .int .u64 (lo b.s), .int .i64 b.mn, .int .i64 b.mx]) (by simp [results, Try.results21, go_sem]) rfl ⟨rfl, ?_⟩
  exact (((Below.refl _ _).alloc (by simp) _).alloc (by simp) _).alloc (by simp; omega) _
set_option maxRecDepth 100000 in
set_option maxHeartbeats 1000000 in
theorem merge_right (a b : Ag) (h : a.c ≠ 0) (h2 : b.c = 0) (w : World) :
    Calls Try.prog 21 #[.agg #[.int .u64 a.c, .bool a.o, .int .i64 (hi a.s), .int .u64 (lo a.s), .int .i64 a.mn, .int .i64 a.mx], .agg #[.int .u64 b.c, .bool b.o, .int .i64 (hi b.s), .int .u64 (lo b.s), .int .i64 b.mn, .int .i64 b.mx]] w fun e w' => e = .returned (.agg #[.int .u64 (mrg a b).c, .bool (mrg a b).o, .int .i64 (hi (mrg a b).s), .int .u64 (lo (mrg a b).s), .int .i64 (mrg a b).mn, .int .i64 (mrg a b).mx]) ∧ Below w.heap.size w w' := by
  have e : mrg a b = a := by unfold mrg; rw [if_neg h, if_pos h2]
  rw [e]
  have hb : (a.c == 0) = false := by simp [h]
  have hb2 : (b.c == 0) = true := by simp [h2]
  clear e h h2
  go_enter Try.func21, Try.ntmps21
  go_wp2_with fail
  refine bodyPost_ret (v := .agg #[.int .u64 a.c, .bool a.o, .int .i64 (hi a.s), .int .u64 (lo a.s), .int .i64 a.mn, .int .i64 a.mx]) (by simp [results, Try.results21, go_sem]) rfl ⟨rfl, ?_⟩
  exact (((Below.refl _ _).alloc (by simp) _).alloc (by simp) _).alloc (by simp; omega) _

theorem mrg_both (a b : Ag) (h : a.c ≠ 0) (h2 : b.c ≠ 0) : mrg a b = ⟨cntF a.c b.c, ovF a.c b.c || a.o || b.o, a.s + b.s, minF a.mn b.mn, maxF a.mx b.mx⟩ := by
  unfold mrg; rw [if_neg h, if_neg h2]

set_option maxRecDepth 100000 in
set_option maxHeartbeats 2000000 in
theorem merge_both (a b : Ag) (h : a.c ≠ 0) (h2 : b.c ≠ 0) (a1 : 0 ≤ a.c) (a2 : a.c < 18446744073709551616) (b1 : 0 ≤ b.c) (b2 : b.c < 18446744073709551616) (w : World) :
    Calls Try.prog 21 #[.agg #[.int .u64 a.c, .bool a.o, .int .i64 (hi a.s), .int .u64 (lo a.s), .int .i64 a.mn, .int .i64 a.mx], .agg #[.int .u64 b.c, .bool b.o, .int .i64 (hi b.s), .int .u64 (lo b.s), .int .i64 b.mn, .int .i64 b.mx]] w fun e w' => e = .returned (.agg #[.int .u64 (mrg a b).c, .bool (mrg a b).o, .int .i64 (hi (mrg a b).s), .int .u64 (lo (mrg a b).s), .int .i64 (mrg a b).mn, .int .i64 (mrg a b).mx]) ∧ Below w.heap.size w w' := by
  rw [mrg_both a b h h2]
  have hb : (a.c == 0) = false := by simp [h]
  have hb2 : (b.c == 0) = false := by simp [h2]
  have HTG : Hid (∀ w, Calls Try.prog 39 #[.int .u64 a.c, .int .u64 b.c] w fun e w' => e = .returned (.tuple #[.int .u64 (cntF a.c b.c), .bool (ovF a.c b.c)]) ∧ w' = w) := fun w => together_any a.c b.c a1 a2 b1 b2 w
  clear h h2 a1 a2 b1 b2
  generalize cntF a.c b.c = cc at *
  generalize ovF a.c b.c = oo at *
  cases oo
  · cases hao : a.o
    · clear hao
      go_enter Try.func21, Try.ntmps21
      go_wp2_with fail
      refine Calls.mono (Hid.out HTG _) ?_
      rintro e w' ⟨rfl, rfl⟩
      go_wp2_with fail
      go_region_held3 (fun w' => w'.cell? ⟨w.heap.size, 0, none⟩ = some (.int .u64 a.c) ∧ w'.cell? ⟨w.heap.size, 1, none⟩ = some (.bool false) ∧ w'.cell? ⟨w.heap.size, 2, none⟩ = some (.int .i64 (hi a.s)) ∧ w'.cell? ⟨w.heap.size, 3, none⟩ = some (.int .u64 (lo a.s)) ∧ w'.cell? ⟨w.heap.size, 4, none⟩ = some (.int .i64 a.mn) ∧ w'.cell? ⟨w.heap.size, 5, none⟩ = some (.int .i64 a.mx) ∧ w'.cell? ⟨w.heap.size + 1, 0, none⟩ = some (.int .u64 b.c) ∧ w'.cell? ⟨w.heap.size + 1, 1, none⟩ = some (.bool b.o) ∧ w'.cell? ⟨w.heap.size + 1, 2, none⟩ = some (.int .i64 (hi b.s)) ∧ w'.cell? ⟨w.heap.size + 1, 3, none⟩ = some (.int .u64 (lo b.s)) ∧ w'.cell? ⟨w.heap.size + 1, 4, none⟩ = some (.int .i64 b.mn) ∧ w'.cell? ⟨w.heap.size + 1, 5, none⟩ = some (.int .i64 b.mx)) (simp [go_sem, World.cell?_alloc_past])
        (first
          | (go_at_call 40; refine (add_exact a.s b.s _).mono ?_; rintro e w' ⟨rfl, c1, c2, c3, c4, c5, rfl⟩)
          | (go_at_call_of 41 (Value.int .i64 a.mn); refine (chosen_min a.mn b.mn _).mono ?_; rintro e w' ⟨rfl, rfl⟩)
          | (go_at_call_of 41 (Value.int .i64 a.mx); refine (chosen_max a.mx b.mx _).mono ?_; rintro e w' ⟨rfl, rfl⟩))
      go_wp2
      refine bodyPost_ret (v := .agg #[.int .u64 cc, .bool b.o, .int .i64 (hi (a.s + b.s)), .int .u64 (lo (a.s + b.s)), .int .i64 (minF a.mn b.mn), .int .i64 (maxF a.mx b.mx)]) (by simp [results, Try.results21, go_sem]) rfl ⟨by simp, ?_⟩
      repeat (first | exact Below.refl _ _ | refine Below.drew ?_ | refine Below.alloc ?_ (by first | (simp; done) | (simp; omega)) _)
    · clear hao
      go_enter Try.func21, Try.ntmps21
      go_wp2_with fail
      refine Calls.mono (Hid.out HTG _) ?_
      rintro e w' ⟨rfl, rfl⟩
      go_wp2_with fail
      refine wp_region_noPanic ?_
      refine wp_region_held_drew (S := (fun w' => w'.cell? ⟨w.heap.size, 0, none⟩ = some (.int .u64 a.c) ∧ w'.cell? ⟨w.heap.size, 1, none⟩ = some (.bool true) ∧ w'.cell? ⟨w.heap.size, 2, none⟩ = some (.int .i64 (hi a.s)) ∧ w'.cell? ⟨w.heap.size, 3, none⟩ = some (.int .u64 (lo a.s)) ∧ w'.cell? ⟨w.heap.size, 4, none⟩ = some (.int .i64 a.mn) ∧ w'.cell? ⟨w.heap.size, 5, none⟩ = some (.int .i64 a.mx) ∧ w'.cell? ⟨w.heap.size + 1, 0, none⟩ = some (.int .u64 b.c) ∧ w'.cell? ⟨w.heap.size + 1, 1, none⟩ = some (.bool b.o) ∧ w'.cell? ⟨w.heap.size + 1, 2, none⟩ = some (.int .i64 (hi b.s)) ∧ w'.cell? ⟨w.heap.size + 1, 3, none⟩ = some (.int .u64 (lo b.s)) ∧ w'.cell? ⟨w.heap.size + 1, 4, none⟩ = some (.int .i64 b.mn) ∧ w'.cell? ⟨w.heap.size + 1, 5, none⟩ = some (.int .i64 b.mx))) (by kernel_rfl) ?_ (fun hHeld => ?_)
      · simp [go_sem, World.cell?_alloc_past]
      refine wpAnyH_take (i := 0) (v := .int .u64 cc) rfl (by kernel_rfl) (by kernel_rfl) (by kernel_rfl) (fun _ _ _ h => h) (Or.inl ⟨by rfl, ?_⟩) (by assumption) ?_
      · (intro w1 hSw; (try dsimp only at hSw); go_simp)
      simp only [List.getElem_toArray, List.getElem_cons_zero, Act.put, List.setIfInBounds_toArray, List.set_cons_zero, List.set_cons_succ]
      refine wpAnyH_take (i := 1) (v := .bool false) rfl (by kernel_rfl) (by kernel_rfl) (by kernel_rfl) (fun _ _ _ h => h) (Or.inl ⟨by rfl, ?_⟩) (by assumption) ?_
      · (intro w1 hSw; (try dsimp only at hSw); go_simp)
      simp only [List.getElem_toArray, List.getElem_cons_succ, List.getElem_cons_zero, Act.put, List.setIfInBounds_toArray, List.set_cons_zero, List.set_cons_succ]
      refine wpAnyH_take (i := 2) (v := .bool false) rfl (by kernel_rfl) (by kernel_rfl) (by kernel_rfl) (fun _ _ _ h => h) (Or.inl ⟨by rfl, ?_⟩) (by assumption) ?_
      · (intro w1 hSw; (try dsimp only at hSw); go_simp)
      simp only [List.getElem_toArray, List.getElem_cons_succ, List.getElem_cons_zero, Act.put, List.setIfInBounds_toArray, List.set_cons_zero, List.set_cons_succ]
      refine wpAnyH_take (i := 3) (v := .pointer (some ⟨w.heap.size, 1, none⟩)) rfl (by kernel_rfl) (by kernel_rfl) (by kernel_rfl) (fun _ _ _ h => h) (Or.inl ⟨by rfl, ?_⟩) (by assumption) ?_
      · (intro w1 hSw; (try dsimp only at hSw); go_simp)
      simp only [List.getElem_toArray, List.getElem_cons_succ, List.getElem_cons_zero, Act.put, List.setIfInBounds_toArray, List.set_cons_zero, List.set_cons_succ]
      refine wpAnyH_take (i := 4) (v := .bool true) rfl (by kernel_rfl) (by kernel_rfl) (by kernel_rfl) (fun _ _ _ h => h) (Or.inl ⟨by rfl, ?_⟩) (by assumption) ?_
      · (intro w1 hSw; (try dsimp only at hSw); go_simp)
      simp only [List.getElem_toArray, List.getElem_cons_succ, List.getElem_cons_zero, Act.put, List.setIfInBounds_toArray, List.set_cons_zero, List.set_cons_succ]
      refine wpAnyH_take (i := 5) (v := .bool true) rfl (by kernel_rfl) (by kernel_rfl) (by kernel_rfl) (fun _ _ _ h => h) (Or.inl ⟨by rfl, ?_⟩) (by assumption) ?_
      · (intro w1 hSw; (try dsimp only at hSw); go_simp)
      simp only [List.getElem_toArray, List.getElem_cons_succ, List.getElem_cons_zero, Act.put, List.setIfInBounds_toArray, List.set_cons_zero, List.set_cons_succ]
      refine wpAnyH_take (i := 6) (v := .bool true) rfl (by kernel_rfl) (by kernel_rfl) (by kernel_rfl) (fun _ _ _ h => h) (Or.inl ⟨by rfl, ?_⟩) (by assumption) ?_
      · (intro w1 hSw; (try dsimp only at hSw); go_simp)
      simp only [List.getElem_toArray, List.getElem_cons_succ, List.getElem_cons_zero, Act.put, List.setIfInBounds_toArray, List.set_cons_zero, List.set_cons_succ]
      refine wpAnyH_take (i := 7) (v := undef) rfl (by kernel_rfl) (by kernel_rfl) (by kernel_rfl) (fun _ _ _ h => h) (Or.inr ⟨by rfl, rfl⟩) (by assumption) ?_
      simp only [List.getElem_toArray, List.getElem_cons_succ, List.getElem_cons_zero, Act.put, List.setIfInBounds_toArray, List.set_cons_zero, List.set_cons_succ]
      refine wpAnyH_take (i := 8) (v := undef) rfl (by kernel_rfl) (by kernel_rfl) (by kernel_rfl) (fun _ _ _ h => h) (Or.inr ⟨by rfl, rfl⟩) (by assumption) ?_
      simp only [List.getElem_toArray, List.getElem_cons_succ, List.getElem_cons_zero, Act.put, List.setIfInBounds_toArray, List.set_cons_zero, List.set_cons_succ]
      refine wpAnyH_take (i := 9) (v := .bool true) rfl (by kernel_rfl) (by kernel_rfl) (by kernel_rfl) (fun _ _ _ h => h) (Or.inl ⟨by rfl, ?_⟩) (by assumption) ?_
      · (intro w1 hSw; (try dsimp only at hSw); go_simp)
      simp only [List.getElem_toArray, List.getElem_cons_succ, List.getElem_cons_zero, Act.put, List.setIfInBounds_toArray, List.set_cons_zero, List.set_cons_succ]
      refine wpAnyH_take (i := 10) (v := .pointer (some ⟨w.heap.size, 2, none⟩)) rfl (by kernel_rfl) (by kernel_rfl) (by kernel_rfl) (fun _ _ _ h => h) (Or.inl ⟨by rfl, ?_⟩) (by assumption) ?_
      · (intro w1 hSw; (try dsimp only at hSw); go_simp)
      simp only [List.getElem_toArray, List.getElem_cons_succ, List.getElem_cons_zero, Act.put, List.setIfInBounds_toArray, List.set_cons_zero, List.set_cons_succ]
      refine wpAnyH_take (i := 11) (v := .agg #[.int .i64 (hi a.s), .int .u64 (lo a.s)]) rfl (by kernel_rfl) (by kernel_rfl) (by kernel_rfl) (fun _ _ _ h => h) (Or.inl ⟨by rfl, ?_⟩) (by assumption) ?_
      · (intro w1 hSw; (try dsimp only at hSw); go_simp)
      simp only [List.getElem_toArray, List.getElem_cons_succ, List.getElem_cons_zero, Act.put, List.setIfInBounds_toArray, List.set_cons_zero, List.set_cons_succ]
      refine wpAnyH_take (i := 12) (v := .pointer (some ⟨w.heap.size + 1, 2, none⟩)) rfl (by kernel_rfl) (by kernel_rfl) (by kernel_rfl) (fun _ _ _ h => h) (Or.inl ⟨by rfl, ?_⟩) (by assumption) ?_
      · (intro w1 hSw; (try dsimp only at hSw); go_simp)
      simp only [List.getElem_toArray, List.getElem_cons_succ, List.getElem_cons_zero, Act.put, List.setIfInBounds_toArray, List.set_cons_zero, List.set_cons_succ]
      refine wpAnyH_take (i := 13) (v := .agg #[.int .i64 (hi b.s), .int .u64 (lo b.s)]) rfl (by kernel_rfl) (by kernel_rfl) (by kernel_rfl) (fun _ _ _ h => h) (Or.inl ⟨by rfl, ?_⟩) (by assumption) ?_
      · (intro w1 hSw; (try dsimp only at hSw); go_simp)
      simp only [List.getElem_toArray, List.getElem_cons_succ, List.getElem_cons_zero, Act.put, List.setIfInBounds_toArray, List.set_cons_zero, List.set_cons_succ]
      refine wpAnyH_take (i := 15) (v := .pointer (some ⟨w.heap.size, 4, none⟩)) rfl (by kernel_rfl) (by kernel_rfl) (by kernel_rfl) (fun _ _ _ h => h) (Or.inl ⟨by rfl, ?_⟩) (by assumption) ?_
      · (intro w1 hSw; (try dsimp only at hSw); go_simp)
      simp only [List.getElem_toArray, List.getElem_cons_succ, List.getElem_cons_zero, Act.put, List.setIfInBounds_toArray, List.set_cons_zero, List.set_cons_succ]
      refine wpAnyH_take (i := 16) (v := .int .i64 a.mn) rfl (by kernel_rfl) (by kernel_rfl) (by kernel_rfl) (fun _ _ _ h => h) (Or.inl ⟨by rfl, ?_⟩) (by assumption) ?_
      · (intro w1 hSw; (try dsimp only at hSw); go_simp)
      simp only [List.getElem_toArray, List.getElem_cons_succ, List.getElem_cons_zero, Act.put, List.setIfInBounds_toArray, List.set_cons_zero, List.set_cons_succ]
      refine wpAnyH_take (i := 17) (v := .pointer (some ⟨w.heap.size + 1, 4, none⟩)) rfl (by kernel_rfl) (by kernel_rfl) (by kernel_rfl) (fun _ _ _ h => h) (Or.inl ⟨by rfl, ?_⟩) (by assumption) ?_
      · (intro w1 hSw; (try dsimp only at hSw); go_simp)
      simp only [List.getElem_toArray, List.getElem_cons_succ, List.getElem_cons_zero, Act.put, List.setIfInBounds_toArray, List.set_cons_zero, List.set_cons_succ]
      refine wpAnyH_take (i := 18) (v := .int .i64 b.mn) rfl (by kernel_rfl) (by kernel_rfl) (by kernel_rfl) (fun _ _ _ h => h) (Or.inl ⟨by rfl, ?_⟩) (by assumption) ?_
      · (intro w1 hSw; (try dsimp only at hSw); go_simp)
      simp only [List.getElem_toArray, List.getElem_cons_succ, List.getElem_cons_zero, Act.put, List.setIfInBounds_toArray, List.set_cons_zero, List.set_cons_succ]
      refine wpAnyH_take (i := 20) (v := .pointer (some ⟨w.heap.size, 5, none⟩)) rfl (by kernel_rfl) (by kernel_rfl) (by kernel_rfl) (fun _ _ _ h => h) (Or.inl ⟨by rfl, ?_⟩) (by assumption) ?_
      · (intro w1 hSw; (try dsimp only at hSw); go_simp)
      simp only [List.getElem_toArray, List.getElem_cons_succ, List.getElem_cons_zero, Act.put, List.setIfInBounds_toArray, List.set_cons_zero, List.set_cons_succ]
      refine wpAnyH_take (i := 21) (v := .int .i64 a.mx) rfl (by kernel_rfl) (by kernel_rfl) (by kernel_rfl) (fun _ _ _ h => h) (Or.inl ⟨by rfl, ?_⟩) (by assumption) ?_
      · (intro w1 hSw; (try dsimp only at hSw); go_simp)
      simp only [List.getElem_toArray, List.getElem_cons_succ, List.getElem_cons_zero, Act.put, List.setIfInBounds_toArray, List.set_cons_zero, List.set_cons_succ]
      refine wpAnyH_take (i := 22) (v := .pointer (some ⟨w.heap.size + 1, 5, none⟩)) rfl (by kernel_rfl) (by kernel_rfl) (by kernel_rfl) (fun _ _ _ h => h) (Or.inl ⟨by rfl, ?_⟩) (by assumption) ?_
      · (intro w1 hSw; (try dsimp only at hSw); go_simp)
      simp only [List.getElem_toArray, List.getElem_cons_succ, List.getElem_cons_zero, Act.put, List.setIfInBounds_toArray, List.set_cons_zero, List.set_cons_succ]
      refine wpAnyH_take (i := 23) (v := .int .i64 b.mx) rfl (by kernel_rfl) (by kernel_rfl) (by kernel_rfl) (fun _ _ _ h => h) (Or.inl ⟨by rfl, ?_⟩) (by assumption) ?_
      · (intro w1 hSw; (try dsimp only at hSw); go_simp)
      simp only [List.getElem_toArray, List.getElem_cons_succ, List.getElem_cons_zero, Act.put, List.setIfInBounds_toArray, List.set_cons_zero, List.set_cons_succ]
      refine wpAnyH_ready (rs := [14]) (by kernel_rfl) (by simp) ?_
      refine AllReadyH.cons (o := _) rfl (fun K hK => ?_) AllReadyH.nil
      go_simp
      refine (add_exact a.s b.s _).mono ?_
      rintro e w' ⟨rfl, c1, c2, c3, c4, c5, rfl⟩
      go_wp2_with fail
      refine hK.out _ _ ?_ (fun hHeld => ?_)
      · simp [go_sem, World.cell?_alloc_past]
      clear hK K
      refine wpAnyH_ready (rs := [19]) (by kernel_rfl) (by simp) ?_
      refine AllReadyH.cons (o := _) rfl (fun K hK => ?_) AllReadyH.nil
      go_simp
      refine (chosen_min a.mn b.mn _).mono ?_
      rintro e w' ⟨rfl, rfl⟩
      go_wp2_with fail
      refine hK.out _ _ ?_ (fun hHeld => ?_)
      · simp [go_sem, World.cell?_alloc_past]
      clear hK K
      refine wpAnyH_ready (rs := [24]) (by kernel_rfl) (by simp) ?_
      refine AllReadyH.cons (o := _) rfl (fun K hK => ?_) AllReadyH.nil
      go_simp
      refine (chosen_max a.mx b.mx _).mono ?_
      rintro e w' ⟨rfl, rfl⟩
      go_wp2_with fail
      refine hK.out _ _ ?_ (fun hHeld => ?_)
      · simp [go_sem, World.cell?_alloc_past]
      clear hK K
      refine wpAnyH_take (i := 25) (v := .agg #[.int .u64 cc, .bool true, .int .i64 (hi (a.s + b.s)), .int .u64 (lo (a.s + b.s)), .int .i64 (minF a.mn b.mn), .int .i64 (maxF a.mx b.mx)]) rfl (by kernel_rfl) (by kernel_rfl) (by kernel_rfl) (fun _ _ _ h => h) (Or.inl ⟨by rfl, ?_⟩) (by assumption) ?_
      · (intro w1 hSw; (try dsimp only at hSw); go_simp)
      simp only [List.getElem_toArray, List.getElem_cons_succ, List.getElem_cons_zero, Act.put, List.setIfInBounds_toArray, List.set_cons_zero, List.set_cons_succ]
      refine wpAnyH_ready (rs := [26]) (by kernel_rfl) (by simp) ?_
      refine AllReadyH.cons (o := _) rfl (fun K hK => ?_) AllReadyH.nil
      go_simp
      refine hK.out _ _ ?_ (fun hHeld => ?_)
      · simp [go_sem, World.cell?_alloc_past]
      clear hK K
      refine wpAnyH_done (by kernel_rfl) ?_ _
      refine NoPanic.normal ?_
      go_wp2
      refine bodyPost_ret (v := .agg #[.int .u64 cc, .bool true, .int .i64 (hi (a.s + b.s)), .int .u64 (lo (a.s + b.s)), .int .i64 (minF a.mn b.mn), .int .i64 (maxF a.mx b.mx)]) (by simp [results, Try.results21, go_sem]) rfl ⟨by simp, ?_⟩
      repeat (first | exact Below.refl _ _ | refine Below.drew ?_ | refine Below.alloc ?_ (by first | (simp; done) | (simp; omega)) _)
  · go_enter Try.func21, Try.ntmps21
    go_wp2_with fail
    refine Calls.mono (Hid.out HTG _) ?_
    rintro e w' ⟨rfl, rfl⟩
    go_wp2_with fail
    refine wp_region_noPanic ?_
    refine wp_region_held_drew (S := (fun w' => w'.cell? ⟨w.heap.size, 0, none⟩ = some (.int .u64 a.c) ∧ w'.cell? ⟨w.heap.size, 1, none⟩ = some (.bool a.o) ∧ w'.cell? ⟨w.heap.size, 2, none⟩ = some (.int .i64 (hi a.s)) ∧ w'.cell? ⟨w.heap.size, 3, none⟩ = some (.int .u64 (lo a.s)) ∧ w'.cell? ⟨w.heap.size, 4, none⟩ = some (.int .i64 a.mn) ∧ w'.cell? ⟨w.heap.size, 5, none⟩ = some (.int .i64 a.mx) ∧ w'.cell? ⟨w.heap.size + 1, 0, none⟩ = some (.int .u64 b.c) ∧ w'.cell? ⟨w.heap.size + 1, 1, none⟩ = some (.bool b.o) ∧ w'.cell? ⟨w.heap.size + 1, 2, none⟩ = some (.int .i64 (hi b.s)) ∧ w'.cell? ⟨w.heap.size + 1, 3, none⟩ = some (.int .u64 (lo b.s)) ∧ w'.cell? ⟨w.heap.size + 1, 4, none⟩ = some (.int .i64 b.mn) ∧ w'.cell? ⟨w.heap.size + 1, 5, none⟩ = some (.int .i64 b.mx))) (by kernel_rfl) ?_ (fun hHeld => ?_)
    · simp [go_sem, World.cell?_alloc_past]
    refine wpAnyH_take (i := 0) (v := .int .u64 cc) rfl (by kernel_rfl) (by kernel_rfl) (by kernel_rfl) (fun _ _ _ h => h) (Or.inl ⟨by rfl, ?_⟩) (by assumption) ?_
    · (intro w1 hSw; (try dsimp only at hSw); go_simp)
    simp only [List.getElem_toArray, List.getElem_cons_zero, Act.put, List.setIfInBounds_toArray, List.set_cons_zero, List.set_cons_succ]
    refine wpAnyH_take (i := 1) (v := .bool true) rfl (by kernel_rfl) (by kernel_rfl) (by kernel_rfl) (fun _ _ _ h => h) (Or.inl ⟨by rfl, ?_⟩) (by assumption) ?_
    · (intro w1 hSw; (try dsimp only at hSw); go_simp)
    simp only [List.getElem_toArray, List.getElem_cons_succ, List.getElem_cons_zero, Act.put, List.setIfInBounds_toArray, List.set_cons_zero, List.set_cons_succ]
    refine wpAnyH_take (i := 2) (v := .bool true) rfl (by kernel_rfl) (by kernel_rfl) (by kernel_rfl) (fun _ _ _ h => h) (Or.inl ⟨by rfl, ?_⟩) (by assumption) ?_
    · (intro w1 hSw; (try dsimp only at hSw); go_simp)
    simp only [List.getElem_toArray, List.getElem_cons_succ, List.getElem_cons_zero, Act.put, List.setIfInBounds_toArray, List.set_cons_zero, List.set_cons_succ]
    refine wpAnyH_take (i := 3) (v := undef) rfl (by kernel_rfl) (by kernel_rfl) (by kernel_rfl) (fun _ _ _ h => h) (Or.inr ⟨by rfl, rfl⟩) (by assumption) ?_
    simp only [List.getElem_toArray, List.getElem_cons_succ, List.getElem_cons_zero, Act.put, List.setIfInBounds_toArray, List.set_cons_zero, List.set_cons_succ]
    refine wpAnyH_take (i := 4) (v := undef) rfl (by kernel_rfl) (by kernel_rfl) (by kernel_rfl) (fun _ _ _ h => h) (Or.inr ⟨by rfl, rfl⟩) (by assumption) ?_
    simp only [List.getElem_toArray, List.getElem_cons_succ, List.getElem_cons_zero, Act.put, List.setIfInBounds_toArray, List.set_cons_zero, List.set_cons_succ]
    refine wpAnyH_take (i := 5) (v := .bool true) rfl (by kernel_rfl) (by kernel_rfl) (by kernel_rfl) (fun _ _ _ h => h) (Or.inl ⟨by rfl, ?_⟩) (by assumption) ?_
    · (intro w1 hSw; (try dsimp only at hSw); go_simp)
    simp only [List.getElem_toArray, List.getElem_cons_succ, List.getElem_cons_zero, Act.put, List.setIfInBounds_toArray, List.set_cons_zero, List.set_cons_succ]
    refine wpAnyH_take (i := 6) (v := .bool true) rfl (by kernel_rfl) (by kernel_rfl) (by kernel_rfl) (fun _ _ _ h => h) (Or.inl ⟨by rfl, ?_⟩) (by assumption) ?_
    · (intro w1 hSw; (try dsimp only at hSw); go_simp)
    simp only [List.getElem_toArray, List.getElem_cons_succ, List.getElem_cons_zero, Act.put, List.setIfInBounds_toArray, List.set_cons_zero, List.set_cons_succ]
    refine wpAnyH_take (i := 7) (v := undef) rfl (by kernel_rfl) (by kernel_rfl) (by kernel_rfl) (fun _ _ _ h => h) (Or.inr ⟨by rfl, rfl⟩) (by assumption) ?_
    simp only [List.getElem_toArray, List.getElem_cons_succ, List.getElem_cons_zero, Act.put, List.setIfInBounds_toArray, List.set_cons_zero, List.set_cons_succ]
    refine wpAnyH_take (i := 8) (v := undef) rfl (by kernel_rfl) (by kernel_rfl) (by kernel_rfl) (fun _ _ _ h => h) (Or.inr ⟨by rfl, rfl⟩) (by assumption) ?_
    simp only [List.getElem_toArray, List.getElem_cons_succ, List.getElem_cons_zero, Act.put, List.setIfInBounds_toArray, List.set_cons_zero, List.set_cons_succ]
    refine wpAnyH_take (i := 9) (v := .bool true) rfl (by kernel_rfl) (by kernel_rfl) (by kernel_rfl) (fun _ _ _ h => h) (Or.inl ⟨by rfl, ?_⟩) (by assumption) ?_
    · (intro w1 hSw; (try dsimp only at hSw); go_simp)
    simp only [List.getElem_toArray, List.getElem_cons_succ, List.getElem_cons_zero, Act.put, List.setIfInBounds_toArray, List.set_cons_zero, List.set_cons_succ]
    refine wpAnyH_take (i := 10) (v := .pointer (some ⟨w.heap.size, 2, none⟩)) rfl (by kernel_rfl) (by kernel_rfl) (by kernel_rfl) (fun _ _ _ h => h) (Or.inl ⟨by rfl, ?_⟩) (by assumption) ?_
    · (intro w1 hSw; (try dsimp only at hSw); go_simp)
    simp only [List.getElem_toArray, List.getElem_cons_succ, List.getElem_cons_zero, Act.put, List.setIfInBounds_toArray, List.set_cons_zero, List.set_cons_succ]
    refine wpAnyH_take (i := 11) (v := .agg #[.int .i64 (hi a.s), .int .u64 (lo a.s)]) rfl (by kernel_rfl) (by kernel_rfl) (by kernel_rfl) (fun _ _ _ h => h) (Or.inl ⟨by rfl, ?_⟩) (by assumption) ?_
    · (intro w1 hSw; (try dsimp only at hSw); go_simp)
    simp only [List.getElem_toArray, List.getElem_cons_succ, List.getElem_cons_zero, Act.put, List.setIfInBounds_toArray, List.set_cons_zero, List.set_cons_succ]
    refine wpAnyH_take (i := 12) (v := .pointer (some ⟨w.heap.size + 1, 2, none⟩)) rfl (by kernel_rfl) (by kernel_rfl) (by kernel_rfl) (fun _ _ _ h => h) (Or.inl ⟨by rfl, ?_⟩) (by assumption) ?_
    · (intro w1 hSw; (try dsimp only at hSw); go_simp)
    simp only [List.getElem_toArray, List.getElem_cons_succ, List.getElem_cons_zero, Act.put, List.setIfInBounds_toArray, List.set_cons_zero, List.set_cons_succ]
    refine wpAnyH_take (i := 13) (v := .agg #[.int .i64 (hi b.s), .int .u64 (lo b.s)]) rfl (by kernel_rfl) (by kernel_rfl) (by kernel_rfl) (fun _ _ _ h => h) (Or.inl ⟨by rfl, ?_⟩) (by assumption) ?_
    · (intro w1 hSw; (try dsimp only at hSw); go_simp)
    simp only [List.getElem_toArray, List.getElem_cons_succ, List.getElem_cons_zero, Act.put, List.setIfInBounds_toArray, List.set_cons_zero, List.set_cons_succ]
    refine wpAnyH_take (i := 15) (v := .pointer (some ⟨w.heap.size, 4, none⟩)) rfl (by kernel_rfl) (by kernel_rfl) (by kernel_rfl) (fun _ _ _ h => h) (Or.inl ⟨by rfl, ?_⟩) (by assumption) ?_
    · (intro w1 hSw; (try dsimp only at hSw); go_simp)
    simp only [List.getElem_toArray, List.getElem_cons_succ, List.getElem_cons_zero, Act.put, List.setIfInBounds_toArray, List.set_cons_zero, List.set_cons_succ]
    refine wpAnyH_take (i := 16) (v := .int .i64 a.mn) rfl (by kernel_rfl) (by kernel_rfl) (by kernel_rfl) (fun _ _ _ h => h) (Or.inl ⟨by rfl, ?_⟩) (by assumption) ?_
    · (intro w1 hSw; (try dsimp only at hSw); go_simp)
    simp only [List.getElem_toArray, List.getElem_cons_succ, List.getElem_cons_zero, Act.put, List.setIfInBounds_toArray, List.set_cons_zero, List.set_cons_succ]
    refine wpAnyH_take (i := 17) (v := .pointer (some ⟨w.heap.size + 1, 4, none⟩)) rfl (by kernel_rfl) (by kernel_rfl) (by kernel_rfl) (fun _ _ _ h => h) (Or.inl ⟨by rfl, ?_⟩) (by assumption) ?_
    · (intro w1 hSw; (try dsimp only at hSw); go_simp)
    simp only [List.getElem_toArray, List.getElem_cons_succ, List.getElem_cons_zero, Act.put, List.setIfInBounds_toArray, List.set_cons_zero, List.set_cons_succ]
    refine wpAnyH_take (i := 18) (v := .int .i64 b.mn) rfl (by kernel_rfl) (by kernel_rfl) (by kernel_rfl) (fun _ _ _ h => h) (Or.inl ⟨by rfl, ?_⟩) (by assumption) ?_
    · (intro w1 hSw; (try dsimp only at hSw); go_simp)
    simp only [List.getElem_toArray, List.getElem_cons_succ, List.getElem_cons_zero, Act.put, List.setIfInBounds_toArray, List.set_cons_zero, List.set_cons_succ]
    refine wpAnyH_take (i := 20) (v := .pointer (some ⟨w.heap.size, 5, none⟩)) rfl (by kernel_rfl) (by kernel_rfl) (by kernel_rfl) (fun _ _ _ h => h) (Or.inl ⟨by rfl, ?_⟩) (by assumption) ?_
    · (intro w1 hSw; (try dsimp only at hSw); go_simp)
    simp only [List.getElem_toArray, List.getElem_cons_succ, List.getElem_cons_zero, Act.put, List.setIfInBounds_toArray, List.set_cons_zero, List.set_cons_succ]
    refine wpAnyH_take (i := 21) (v := .int .i64 a.mx) rfl (by kernel_rfl) (by kernel_rfl) (by kernel_rfl) (fun _ _ _ h => h) (Or.inl ⟨by rfl, ?_⟩) (by assumption) ?_
    · (intro w1 hSw; (try dsimp only at hSw); go_simp)
    simp only [List.getElem_toArray, List.getElem_cons_succ, List.getElem_cons_zero, Act.put, List.setIfInBounds_toArray, List.set_cons_zero, List.set_cons_succ]
    refine wpAnyH_take (i := 22) (v := .pointer (some ⟨w.heap.size + 1, 5, none⟩)) rfl (by kernel_rfl) (by kernel_rfl) (by kernel_rfl) (fun _ _ _ h => h) (Or.inl ⟨by rfl, ?_⟩) (by assumption) ?_
    · (intro w1 hSw; (try dsimp only at hSw); go_simp)
    simp only [List.getElem_toArray, List.getElem_cons_succ, List.getElem_cons_zero, Act.put, List.setIfInBounds_toArray, List.set_cons_zero, List.set_cons_succ]
    refine wpAnyH_take (i := 23) (v := .int .i64 b.mx) rfl (by kernel_rfl) (by kernel_rfl) (by kernel_rfl) (fun _ _ _ h => h) (Or.inl ⟨by rfl, ?_⟩) (by assumption) ?_
    · (intro w1 hSw; (try dsimp only at hSw); go_simp)
    simp only [List.getElem_toArray, List.getElem_cons_succ, List.getElem_cons_zero, Act.put, List.setIfInBounds_toArray, List.set_cons_zero, List.set_cons_succ]
    refine wpAnyH_ready (rs := [14]) (by kernel_rfl) (by simp) ?_
    refine AllReadyH.cons (o := _) rfl (fun K hK => ?_) AllReadyH.nil
    go_simp
    refine (add_exact a.s b.s _).mono ?_
    rintro e w' ⟨rfl, c1, c2, c3, c4, c5, rfl⟩
    go_wp2_with fail
    refine hK.out _ _ ?_ (fun hHeld => ?_)
    · simp [go_sem, World.cell?_alloc_past]
    clear hK K
    refine wpAnyH_ready (rs := [19]) (by kernel_rfl) (by simp) ?_
    refine AllReadyH.cons (o := _) rfl (fun K hK => ?_) AllReadyH.nil
    go_simp
    refine (chosen_min a.mn b.mn _).mono ?_
    rintro e w' ⟨rfl, rfl⟩
    go_wp2_with fail
    refine hK.out _ _ ?_ (fun hHeld => ?_)
    · simp [go_sem, World.cell?_alloc_past]
    clear hK K
    refine wpAnyH_ready (rs := [24]) (by kernel_rfl) (by simp) ?_
    refine AllReadyH.cons (o := _) rfl (fun K hK => ?_) AllReadyH.nil
    go_simp
    refine (chosen_max a.mx b.mx _).mono ?_
    rintro e w' ⟨rfl, rfl⟩
    go_wp2_with fail
    refine hK.out _ _ ?_ (fun hHeld => ?_)
    · simp [go_sem, World.cell?_alloc_past]
    clear hK K
    refine wpAnyH_take (i := 25) (v := .agg #[.int .u64 cc, .bool true, .int .i64 (hi (a.s + b.s)), .int .u64 (lo (a.s + b.s)), .int .i64 (minF a.mn b.mn), .int .i64 (maxF a.mx b.mx)]) rfl (by kernel_rfl) (by kernel_rfl) (by kernel_rfl) (fun _ _ _ h => h) (Or.inl ⟨by rfl, ?_⟩) (by assumption) ?_
    · (intro w1 hSw; (try dsimp only at hSw); go_simp)
    simp only [List.getElem_toArray, List.getElem_cons_succ, List.getElem_cons_zero, Act.put, List.setIfInBounds_toArray, List.set_cons_zero, List.set_cons_succ]
    refine wpAnyH_ready (rs := [26]) (by kernel_rfl) (by simp) ?_
    refine AllReadyH.cons (o := _) rfl (fun K hK => ?_) AllReadyH.nil
    go_simp
    refine hK.out _ _ ?_ (fun hHeld => ?_)
    · simp [go_sem, World.cell?_alloc_past]
    clear hK K
    refine wpAnyH_done (by kernel_rfl) ?_ _
    refine NoPanic.normal ?_
    go_wp2
    refine bodyPost_ret (v := .agg #[.int .u64 cc, .bool true, .int .i64 (hi (a.s + b.s)), .int .u64 (lo (a.s + b.s)), .int .i64 (minF a.mn b.mn), .int .i64 (maxF a.mx b.mx)]) (by simp [results, Try.results21, go_sem]) rfl ⟨by simp, ?_⟩
    repeat (first | exact Below.refl _ _ | refine Below.drew ?_ | refine Below.alloc ?_ (by first | (simp; done) | (simp; omega)) _)

theorem merge_any (a b : Ag) (a1 : 0 ≤ a.c) (a2 : a.c < 18446744073709551616) (b1 : 0 ≤ b.c) (b2 : b.c < 18446744073709551616) (w : World) :
    Calls Try.prog 21 #[.agg #[.int .u64 a.c, .bool a.o, .int .i64 (hi a.s), .int .u64 (lo a.s), .int .i64 a.mn, .int .i64 a.mx], .agg #[.int .u64 b.c, .bool b.o, .int .i64 (hi b.s), .int .u64 (lo b.s), .int .i64 b.mn, .int .i64 b.mx]] w fun e w' => e = .returned (.agg #[.int .u64 (mrg a b).c, .bool (mrg a b).o, .int .i64 (hi (mrg a b).s), .int .u64 (lo (mrg a b).s), .int .i64 (mrg a b).mn, .int .i64 (mrg a b).mx]) ∧ Below w.heap.size w w' := by
  by_cases h : a.c = 0
  · exact merge_left a b h w
  · by_cases h2 : b.c = 0
    · exact merge_right a b h h2 w
    · exact merge_both a b h h2 a1 a2 b1 b2 w
end Go.Proofs.Ytbadjigfcncfcaa

/- The contracts of agg.Right and One. -/
namespace Go.Proofs.Ytbadjigfcncfcaa
open Go.RowKit

def rightB (a : Ag) : Bool := if a.c = 0 then (!a.o && (hi a.s == 0) && (lo a.s == 0) && (a.mn == 0) && (a.mx == 0)) else (decide (a.mn ≤ a.mx) && (!a.o || (a.c == 18446744073709551615)))

set_option maxRecDepth 100000 in
set_option maxHeartbeats 1000000 in
theorem right_zero (a : Ag) (h : a.c = 0) (w : World) :
    Calls Try.prog 55 #[.agg #[.int .u64 a.c, .bool a.o, .int .i64 (hi a.s), .int .u64 (lo a.s), .int .i64 a.mn, .int .i64 a.mx]] w fun e w' => e = .returned (.bool (rightB a)) ∧ Below w.heap.size w w' := by
  obtain ⟨c, o, s, mn, mx⟩ := a
  simp only at h
  subst h
  have hb : ((0 : Int) == 0) = true := rfl
  go_enter Try.func55, Try.ntmps55
  go_wp2_with fail
  all_goals
    go_ret
    refine ⟨?_, (Below.refl _ _).alloc (by simp) _⟩
    simp [rightB, *]
set_option maxRecDepth 100000 in
set_option maxHeartbeats 1000000 in
theorem right_some (a : Ag) (h : a.c ≠ 0) (w : World) :
    Calls Try.prog 55 #[.agg #[.int .u64 a.c, .bool a.o, .int .i64 (hi a.s), .int .u64 (lo a.s), .int .i64 a.mn, .int .i64 a.mx]] w fun e w' => e = .returned (.bool (rightB a)) ∧ Below w.heap.size w w' := by
  have e : rightB a = (decide (a.mn ≤ a.mx) && (!a.o || (a.c == 18446744073709551615))) := by unfold rightB; rw [if_neg h]
  have hb : (a.c == 0) = false := by simp [h]
  by_cases h1 : a.mn ≤ a.mx
  · have hd : decide (a.mn ≤ a.mx) = true := by simpa using h1
    cases ho : a.o
    · have HE : Hid (rightB a = true) := by unfold Hid; rw [e, hd, ho]; rfl
      clear e h h1 ho
      go_enter Try.func55, Try.ntmps55
      go_wp2_with fail
      go_ret
      exact ⟨by rw [HE.out]; rfl, (Below.refl _ _).alloc (by simp) _⟩
    · have HE : Hid (rightB a = (a.c == 18446744073709551615)) := by unfold Hid; rw [e, hd, ho]; simp
      clear e h h1 ho
      generalize hm : (a.c == 18446744073709551615) = mm at *
      cases mm
      · go_enter Try.func55, Try.ntmps55
        go_wp2_with fail
        go_ret
        exact ⟨by rw [HE.out]; rfl, (Below.refl _ _).alloc (by simp) _⟩
      · go_enter Try.func55, Try.ntmps55
        go_wp2_with fail
        go_ret
        exact ⟨by rw [HE.out]; rfl, (Below.refl _ _).alloc (by simp) _⟩
  · have hd : decide (a.mn ≤ a.mx) = false := by simpa using h1
    have HE : Hid (rightB a = false) := by unfold Hid; rw [e, hd]; rfl
    clear e h h1
    go_enter Try.func55, Try.ntmps55
    go_wp2_with fail
    go_ret
    exact ⟨by rw [HE.out]; rfl, (Below.refl _ _).alloc (by simp) _⟩
theorem right_any (a : Ag) (w : World) :
    Calls Try.prog 55 #[.agg #[.int .u64 a.c, .bool a.o, .int .i64 (hi a.s), .int .u64 (lo a.s), .int .i64 a.mn, .int .i64 a.mx]] w fun e w' => e = .returned (.bool (rightB a)) ∧ Below w.heap.size w w' := by
  by_cases h : a.c = 0
  · exact right_zero a h w
  · exact right_some a h w

def oneF (v : Int) : Ag := ⟨1, false, v, v, v⟩
set_option maxHeartbeats 400000 in
theorem one_any (v : Int) (h1 : -9223372036854775808 ≤ v) (h2 : v ≤ 9223372036854775807) (w : World) :
    Calls Try.prog 22 #[.int .i64 v] w fun e w' => e = .returned (.agg #[.int .u64 (oneF v).c, .bool (oneF v).o, .int .i64 (hi (oneF v).s), .int .u64 (lo (oneF v).s), .int .i64 (oneF v).mn, .int .i64 (oneF v).mx]) ∧ Below w.heap.size w w' := by
  go_enter Try.func22, Try.ntmps22
  go_wp2_with fail
  refine (of_exact v h1 h2 _).mono ?_
  rintro e w' ⟨rfl, c, rfl⟩
  go_wp2_with fail
  refine bodyPost_ret (v := .agg #[.int .u64 1, .bool false, .int .i64 (hi v), .int .u64 (lo v), .int .i64 v, .int .i64 v]) (by simp [results, Try.results22, go_sem]) rfl ⟨rfl, ?_⟩
  exact ((Below.refl _ _).alloc (by simp) _).alloc (by simp) _
end Go.Proofs.Ytbadjigfcncfcaa

/- Bytes that a slice reads, whoever made it. -/
namespace Go.Proofs.Ytbadjigfcncfcaa
open Go.RowKit

/-- A byte's cell. -/
def bc (x : UInt8) : Value := .int .u8 (x.toNat : Int)
/-- A slice value reads these bytes. -/
def Reads (w : World) (v : Value) (l : List UInt8) : Prop :=
  (l = [] ∧ ∃ a cap, v = .slice a 0 cap ∧ (a = none → cap = 0)) ∨
  ∃ b off cap, v = .slice (some ⟨b, off, none⟩) l.length cap ∧ 0 < l.length ∧ l.length ≤ cap ∧ cap ≤ maxLen ∧ b < w.heap.size ∧ ∀ j (h : j < l.length), w.cell? ⟨b, off + j, none⟩ = some (bc l[j])
theorem Reads.below {w w' : World} {v : Value} {l : List UInt8} (h : Reads w v l) (hb : Below w.heap.size w w') : Reads w' v l := by
  rcases h with h | ⟨b, off, cap, h1, h2, h3, h4, h5, h6⟩
  · exact .inl h
  · have := hb.size
    exact .inr ⟨b, off, cap, h1, h2, h3, h4, by omega, fun j hj => (hb.cell (p := ⟨b, off + j, none⟩) h5).trans (h6 j hj)⟩
theorem Reads.drew {w : World} {v : Value} {l : List UInt8} (h : Reads w v l) : Reads w.drew v l := h
theorem Reads.alloc {w : World} {v : Value} {l : List UInt8} (h : Reads w v l) (o : Obj) : Reads (w.alloc o) v l := h.below ((Below.refl _ _).alloc (Nat.le_refl _) _)
/-- What it is, as a slice. -/
theorem Reads.form {w : World} {v : Value} {l : List UInt8} (h : Reads w v l) : ∃ a cap, v = .slice a l.length cap ∧ l.length ≤ maxLen := by
  rcases h with ⟨rfl, a, cap, h, _⟩ | ⟨b, off, cap, h1, h2, h3, h4, h5, h6⟩
  · exact ⟨a, cap, h, by simp⟩
  · exact ⟨_, cap, h1, by omega⟩
theorem reads_own {w : World} {base : Nat} {e : TypeId} {v : Value} {n : Nat} {l : List UInt8} (h : w.ownsRow base e 1 v n (l.map bc)) : Reads w v l := by
  obtain ⟨h1, h2⟩ := h
  simp at h1
  rcases h2 with ⟨rfl, h0⟩ | ⟨g, cap, cur, rfl, hg, hw, hn, hm, hs, ht⟩
  · left
    refine ⟨List.length_eq_zero_iff.1 (by omega), none, 0, rfl, fun _ => rfl⟩
  · rcases Nat.eq_zero_or_pos n with h0 | h0
    · left; exact ⟨List.length_eq_zero_iff.1 (by omega), _, cap, by rw [h0], fun h => by cases h⟩
    · right
      have hown : w.ownsRow base e 1 (.slice (some ⟨g, 0, none⟩) n cap) n (l.map bc) := ⟨by simp; exact h1, .inr ⟨g, cap, cur, rfl, hg, hw, hn, hm, hs, ht⟩⟩
      refine ⟨g, 0, cap, by rw [h1], by omega, by omega, hm, (hown.lt g rfl).2, fun j hj => ?_⟩
      have := hown.cells (g := g) rfl j (bc l[j]) (by simp [hj])
      have ea : (⟨g, 0, none⟩ : Addr).add j = ⟨g, 0 + j, none⟩ := by simp [Addr.add]; omega
      rw [ea] at this
      exact this
theorem own_block {w : World} {base : Nat} {e : TypeId} {size : Nat} {v : Value} {n : Nat} {xs : List Value} (h : w.ownsRow base e size v n xs) : ∀ k, v.ownBlock = some k → base ≤ k := fun k hk => (h.lt k hk).1
theorem own_mono {w : World} {base base' : Nat} {e : TypeId} {size : Nat} {v : Value} {n : Nat} {xs : List Value} (h : w.ownsRow base e size v n xs) (hb : base' ≤ base) : w.ownsRow base' e size v n xs := by
  obtain ⟨h1, h2⟩ := h
  refine ⟨h1, ?_⟩
  rcases h2 with h2 | ⟨g, cap, cur, hv, hg, r⟩
  · exact .inl h2
  · exact .inr ⟨g, cap, cur, hv, by omega, r⟩
/-- Its text. -/
theorem reads_text {w : World} {v : Value} {l : List UInt8} (h : Reads w v l) : (convert 57 9 v).run Try.prog w = .ok (.string ⟨l.toArray⟩) w := by
  rcases h with ⟨rfl, a, cap, rfl, _⟩ | ⟨b, off, cap, rfl, h2, h3, h4, h5, h6⟩
  · rw [run_convert_bytes_string w 57 9 5 a 0 cap Try.underlying57 Try.underlying5 Try.underlying9]
    cases a <;> simp [Conv.bytesToString, loadCells]
    all_goals rfl
  · exact run_convert_bytes_back (P := Try.prog) w 57 9 5 ⟨b, off, none⟩ cap l Try.underlying57 Try.underlying5 Try.underlying9 (by
      intro j hj
      have ea : (⟨b, off, none⟩ : Addr).add j = ⟨b, off + j, none⟩ := by simp [Addr.add]
      rw [ea]
      exact h6 j hj)
theorem info5 : (Try.prog.info? 5).map (fun i => (i.zero, i.size, i.bytes)) = some (some (.int .u8 0), 1, 1) := by kernel_rfl
theorem news1 {w : World} {x : Value} {t : TypeId} : ∀ j u, [x][j]? = some u → (w.alloc (.cells #[x] t)).cell? ((⟨w.heap.size, 0, none⟩ : Addr).add j) = some u := by
  intro j u hj
  match j, hj with
  | 0, hj => simp at hj; subst hj; simp [Addr.add]
theorem news2 {w : World} {x y : Value} {t : TypeId} : ∀ j u, [x, y][j]? = some u → (w.alloc (.cells #[x, y] t)).cell? ((⟨w.heap.size, 0, none⟩ : Addr).add j) = some u := by
  intro j u hj
  match j, hj with
  | 0, hj => simp at hj; subst hj; simp [Addr.add]
  | 1, hj => simp at hj; subst hj; simp [Addr.add]
theorem one1 {k : IntKind} {x : Int} : ∀ u ∈ [Value.int k x], u.oneCell' = true := by intro u hu; simp at hu; subst hu; rfl
theorem one2 {k : IntKind} {x y : Int} : ∀ u ∈ [Value.int k x, Value.int k y], u.oneCell' = true := by intro u hu; simp at hu; rcases hu with rfl | rfl <;> rfl
theorem len_ok {n m : Nat} (h : n + m ≤ 100000) : n + m ≤ maxLen ∧ (n + m) * 1 ≤ 140737488355328 := by unfold maxLen; omega
theorem al_ok {w w1 : World} {o : Obj} (h : w.heap.size ≤ w1.heap.size) : w.heap.size ≤ (w1.alloc o).heap.size := by simp; omega
theorem reads_take {w : World} {b off cap : Nat} {l : List UInt8} (c : Nat) (hc : c ≤ l.length) (hcap : l.length ≤ cap) (hm : cap ≤ maxLen) (hb : b < w.heap.size) (h : ∀ j (h : j < l.length), w.cell? ⟨b, off + j, none⟩ = some (bc l[j])) : Reads w (.slice (some ⟨b, off, none⟩) c cap) (l.take c) := by
  rcases Nat.eq_zero_or_pos c with h0 | h0
  · subst h0; exact .inl ⟨rfl, _, _, rfl, fun h => by cases h⟩
  · have hl : (l.take c).length = c := by simp; omega
    refine .inr ⟨b, off, cap, by rw [hl], by omega, by omega, hm, hb, fun j hj => ?_⟩
    rw [h j (by omega)]
    simp
theorem newsR {w : World} {b off : Nat} {l : List UInt8} (h : ∀ j (h : j < l.length), w.cell? ⟨b, off + j, none⟩ = some (bc l[j])) : ∀ j u, (l.map bc)[j]? = some u → w.cell? ((⟨b, off, none⟩ : Addr).add j) = some u := by
  intro j u hj
  rw [List.getElem?_map] at hj
  rcases Nat.lt_or_ge j l.length with hlt | hge
  · rw [List.getElem?_eq_getElem hlt] at hj
    simp at hj
    subst hj
    have ea : (⟨b, off, none⟩ : Addr).add j = ⟨b, off + j, none⟩ := by simp [Addr.add]
    rw [ea]; exact h j hlt
  · rw [List.getElem?_eq_none hge] at hj; simp at hj
theorem one_bc {l : List UInt8} : ∀ u ∈ l.map bc, u.oneCell' = true := by
  intro u hu
  obtain ⟨x, _, rfl⟩ := List.mem_map.1 hu
  rfl
/-- Bytes of one's own: their slice's array was made since base. -/
def Own (w : World) (base : Nat) (v : Value) (l : List UInt8) : Prop := w.ownsRow base 5 1 v l.length (l.map bc)
theorem Own.nil (w : World) (base : Nat) : Own w base (.slice none 0 0) [] := World.ownsRow_nil _ _ _ _
theorem Own.reads {w : World} {base : Nat} {v : Value} {l : List UInt8} (h : Own w base v l) : Reads w v l := reads_own h
theorem Own.mono {w : World} {base base' : Nat} {v : Value} {l : List UInt8} (h : Own w base v l) (hb : base' ≤ base) : Own w base' v l := own_mono h hb
theorem Own.below {w w' : World} {base : Nat} {v : Value} {l : List UInt8} (h : Own w base v l) (hb : Below w.heap.size w w') : Own w' base v l := by
  have hlt := World.ownsRow.lt h
  obtain ⟨h1, h2⟩ := h
  refine ⟨h1, ?_⟩
  rcases h2 with h2 | ⟨g, cap, cur, hv, hg, hw, r⟩
  · exact .inl h2
  · exact .inr ⟨g, cap, cur, hv, hg, (hb.block g (hlt g (by rw [hv]; rfl)).2).trans hw, r⟩
theorem Own.alloc {w : World} {base : Nat} {v : Value} {l : List UInt8} (h : Own w base v l) (o : Obj) : Own (w.alloc o) base v l := World.ownsRow.alloc h o
theorem Own.form {w : World} {base : Nat} {v : Value} {l : List UInt8} (h : Own w base v l) : ∃ a cap, v = .slice a l.length cap ∧ l.length ≤ maxLen := h.reads.form
/-- Bytes, whatever their slice is, behind bytes of one's own. -/
theorem wpList_app {w : World} {ops : Array Oper} {rest : List Oper} {o : Oper} {a : Act} {Q : Exit → Act → World → Prop} (hgd : o.guard = none) (s x : Operand)
    (ho : o.op = .call { callee := .builtin .append, args := #[s, x], argTypes := #[57, 57] })
    (base : Nat) (v vx : Value) (L l M : List UInt8) (hM : M = L ++ l) (hs : a.eval s = v) (hx : a.eval x = vx) (hown : Own w base v L) (hr : Reads w vx l)
    (hlen : L.length + l.length ≤ 140737488355328) (hbase : base ≤ w.heap.size)
    (h : ∀ v' w', Own w' base v' M → Hid (Below base w w') → wpList Try.prog ops Q rest (a.put o.dst v') w') : wpList Try.prog ops Q (o :: rest) a w := by
  subst hM
  obtain ⟨i0, hi, hz0, hz1, hz2⟩ := info_parts info5
  rcases hr with ⟨rfl, ad, cap, rfl, hn⟩ | ⟨b, off, cap, rfl, h2, h3, h4, h5, h6⟩
  · cases ad with
    | none =>
      obtain rfl := hn rfl
      refine wpList_append_own_none hgd s x 57 ho base 5 i0 1 Try.underlying57 hi v L.length (L.map bc) hs hown hx ?_
      exact h v w (by rw [List.append_nil]; exact hown) (Below.refl _ _)
    | some ad =>
      refine wpList_append_own w hgd s x 57 ho base 5 i0 (.int .u8 0) 1 1 Try.underlying57 hi hz0 hz1 hz2 rfl (by decide) v L.length (L.map bc) hs hown ad 0 cap [] hx (by simp) (by intro j u hj; simp at hj) (by intro u hu; simp at hu) (by simp [maxLen] at *; omega) (by simp at *; omega) hbase ?_
      intro v' w' hown' hgrow _
      refine h v' w' ?_ ((Below.refl _ _).grown hgrow hbase (own_block hown))
      unfold Own; simpa using hown'
  · refine wpList_append_own w hgd s x 57 ho base 5 i0 (.int .u8 0) 1 1 Try.underlying57 hi hz0 hz1 hz2 rfl (by decide) v L.length (L.map bc) hs hown ⟨b, off, none⟩ l.length cap (l.map bc) hx (by simp) (newsR h6) one_bc (by simp [maxLen] at *; omega) (by simp at *; omega) hbase ?_
    intro v' w' hown' hgrow _
    refine h v' w' ?_ ((Below.refl _ _).grown hgrow hbase (own_block hown))
    unfold Own; rw [List.length_append, List.map_append]; exact hown'
/-- One byte, just laid, behind bytes of one's own. -/
theorem wpList_app1 {w0 : World} {ops : Array Oper} {rest : List Oper} {o : Oper} {a : Act} {Q : Exit → Act → World → Prop} {u : Value} {t : TypeId} (hgd : o.guard = none) (s x : Operand)
    (ho : o.op = .call { callee := .builtin .append, args := #[s, x], argTypes := #[57, 57] })
    (base : Nat) (v : Value) (L : List UInt8) (y : UInt8) (M : List UInt8) (hM : M = L ++ [y]) (hu : u = bc y) (hs : a.eval s = v) (hx : a.eval x = .slice (some ⟨w0.heap.size, 0, none⟩) 1 1) (hown : Own w0 base v L)
    (hlen : L.length + 1 ≤ 140737488355328) (hbase : base ≤ w0.heap.size)
    (h : ∀ v' w', Own w' base v' M → Hid (Below base w0 w') → wpList Try.prog ops Q rest (a.put o.dst v') w') : wpList Try.prog ops Q (o :: rest) a (w0.alloc (.cells #[u] t)) := by
  subst hu
  refine wpList_app hgd s x ho base v _ L [y] M hM hs hx (hown.alloc _) (.inr ⟨w0.heap.size, 0, 1, rfl, by simp, by simp, by simp [maxLen], by simp, fun j hj => ?_⟩) (by simpa using hlen) (by simp; omega) ?_
  · have : j = 0 := by simpa using hj
    subst this; simp
  · intro v' w' h1 h2
    exact h v' w' h1 (((Below.refl _ _).alloc hbase _).trans h2.out)
theorem Own.at {w : World} {base g cap n : Nat} {l : List UInt8} (h : Own w base (.slice (some ⟨g, 0, none⟩) n cap) l) (j : Nat) (hj : j < l.length) : w.cell? ⟨g, j, none⟩ = some (bc l[j]) ∧ w.frozen? ⟨g, j, none⟩ = false := by
  have hn : n = l.length := by
    obtain ⟨a, c, hv, _⟩ := h.form
    simp at hv; exact hv.2.1
  subst hn
  refine ⟨?_, World.ownsRow.frozenAt h j⟩
  rw [World.ownsRow.cellAt h j (by simpa using hj)]
  simp [hj]
theorem Own.stored {w : World} {base g cap n : Nat} {l : List UInt8} (h : Own w base (.slice (some ⟨g, 0, none⟩) n cap) l) (j : Nat) (y : UInt8) : Own (w.setCell ⟨g, j, none⟩ (bc y)) base (.slice (some ⟨g, 0, none⟩) n cap) (l.set j y) ∧ Below base w (w.setCell ⟨g, j, none⟩ (bc y)) := by
  have hn : n = l.length := by
    obtain ⟨a, c, hv, _⟩ := h.form
    simp at hv; exact hv.2.1
  subst hn
  have hb := own_block h g rfl
  refine ⟨?_, (Below.refl _ _).setCell hb _⟩
  have := (World.ownsRow.stored h j (bc y)).1
  unfold Own
  rw [List.length_set, List.map_set]
  exact this
theorem Own.some {w : World} {base : Nat} {v : Value} {l : List UInt8} (h : Own w base v l) (h0 : 0 < l.length) : ∃ g cap, v = .slice (some ⟨g, 0, none⟩) l.length cap ∧ base ≤ g ∧ g < w.heap.size ∧ l.length ≤ cap ∧ cap ≤ maxLen := by
  have hlt := World.ownsRow.lt h
  rcases h.2 with ⟨_, h1⟩ | ⟨g, cap, cur, hv, hg, hw, hc, hm, _⟩
  · omega
  · exact ⟨g, cap, hv, hg, (hlt g (by rw [hv]; rfl)).2, hc, hm⟩
theorem Reads.at {w : World} {a : Option Addr} {n cap : Nat} {l : List UInt8} (h : Reads w (.slice a n cap) l) (j : Nat) (hj : j < l.length) : ∃ b off, a = some ⟨b, off, none⟩ ∧ b < w.heap.size ∧ w.cell? ⟨b, off + j, none⟩ = some (bc l[j]) := by
  rcases h with ⟨rfl, _⟩ | ⟨b, off, cap', hv, h2, h3, h4, h5, h6⟩
  · simp at hj
  · simp at hv
    exact ⟨b, off, hv.1, h5, h6 j hj⟩
/-- The same, as the run's equation. -/
theorem run_app {w : World} (ty : TypeId) (base : Nat) (v vx : Value) (L l M : List UInt8) (hM : M = L ++ l) (hown : Own w base v L) (hr : Reads w vx l) (hlen : L.length + l.length ≤ 140737488355328) (hbase : base ≤ w.heap.size) :
    ∃ v' w', (Builtin.append_ #[57, 57] ty #[v, vx]).run Try.prog w = .ok v' w' ∧ Own w' base v' M ∧ Hid (Below base w w') := by
  subst hM
  obtain ⟨i0, hi, hz0, hz1, hz2⟩ := info_parts info5
  rcases hr with ⟨rfl, ad, cap, rfl, hn⟩ | ⟨b, off, cap, rfl, h2, h3, h4, h5, h6⟩
  · cases ad with
    | none =>
      obtain rfl := hn rfl
      exact ⟨v, w, run_append_owned_none (P := Try.prog) w base 57 ty 5 i0 1 Try.underlying57 hi v L.length (L.map bc) hown, by rw [List.append_nil]; exact hown, Below.refl _ _⟩
    | some ad =>
      obtain ⟨v', w', hrun, hown', hgrow, _⟩ := run_append_own (P := Try.prog) w base 57 ty 5 i0 (.int .u8 0) 1 1 Try.underlying57 hi hz0 hz1 hz2 rfl (by decide) v L.length (L.map bc) hown ad 0 cap [] (by simp) (by intro j u hj; simp at hj) (by intro u hu; simp at hu) (by simp [maxLen] at *; omega) (by simp at *; omega) hbase
      exact ⟨v', w', hrun, by unfold Own; simpa using hown', (Below.refl _ _).grown hgrow hbase (own_block hown)⟩
  · obtain ⟨v', w', hrun, hown', hgrow, _⟩ := run_append_own (P := Try.prog) w base 57 ty 5 i0 (.int .u8 0) 1 1 Try.underlying57 hi hz0 hz1 hz2 rfl (by decide) v L.length (L.map bc) hown ⟨b, off, none⟩ l.length cap (l.map bc) (by simp) (newsR h6) one_bc (by simp [maxLen] at *; omega) (by simp at *; omega) hbase
    exact ⟨v', w', hrun, by unfold Own; rw [List.length_append, List.map_append]; exact hown', (Below.refl _ _).grown hgrow hbase (own_block hown)⟩
/-- The same, at one operation. -/
theorem wp_app {w : World} {o : Oper} {a : Act} {K : Act → World → Prop} {Q : Exit → Act → World → Prop} (s x : Operand)
    (ho : o.op = .call { callee := .builtin .append, args := #[s, x], argTypes := #[57, 57] })
    (base : Nat) (v vx : Value) (L l M : List UInt8) (hM : M = L ++ l) (hs : a.eval s = v) (hx : a.eval x = vx) (hown : Own w base v L) (hr : Reads w vx l)
    (hlen : L.length + l.length ≤ 140737488355328) (hbase : base ≤ w.heap.size)
    (h : ∀ v' w', Own w' base v' M → Hid (Below base w w') → K (a.put o.dst v') w') : o.wp Try.prog a w K Q := by
  obtain ⟨v', w', hrun, h1, h2⟩ := run_app (w := w) o.type base v vx L l M hM hown hr hlen hbase
  unfold Oper.wp
  simp [execOp, ho, resolve, invoke, builtin, hs, hx, hrun, Result.andThen]
  exact h v' w' h1 h2
theorem hid_ex {α : Type} (a : α) : ∃ b, Hid (b = a) := ⟨a, rfl⟩
end Go.Proofs.Ytbadjigfcncfcaa

/- The order of bytes, and lists of entries in that order. -/
namespace Go.Proofs.Ytbadjigfcncfcaa
open Go.Lib

abbrev Ks := List UInt8
/-- Bytes stand ahead of others. -/
def ltK (a b : Ks) : Prop := compareBytes a b = -1
instance (a b : Ks) : Decidable (ltK a b) := inferInstanceAs (Decidable (_ = _))
theorem cmp_three : ∀ a b : Ks, compareBytes a b = -1 ∨ compareBytes a b = 0 ∨ compareBytes a b = 1
  | [], [] => by simp [compareBytes]
  | [], _ :: _ => by simp [compareBytes]
  | _ :: _, [] => by simp [compareBytes]
  | a :: l1, b :: l2 => by
    unfold compareBytes
    split
    · simp
    · split
      · simp
      · exact cmp_three l1 l2
theorem u8_tri {a b : UInt8} (h1 : ¬ a < b) (h2 : ¬ b < a) : a = b := by
  apply UInt8.toNat.inj
  have h1' : ¬ a.toNat < b.toNat := h1
  have h2' : ¬ b.toNat < a.toNat := h2
  omega
theorem cmp_refl : ∀ a : Ks, compareBytes a a = 0
  | [] => rfl
  | a :: l1 => by
    unfold compareBytes
    have h : ¬ a < a := fun h => Nat.lt_irrefl _ (show a.toNat < a.toNat from h)
    rw [if_neg h, if_neg h]; exact cmp_refl l1
theorem cmp_zero : ∀ {a b : Ks}, compareBytes a b = 0 → a = b
  | [], [], _ => rfl
  | [], _ :: _, h => by simp [compareBytes] at h
  | _ :: _, [], h => by simp [compareBytes] at h
  | a :: l1, b :: l2, h => by
    unfold compareBytes at h
    by_cases h1 : a < b
    · rw [if_pos h1] at h; simp at h
    · rw [if_neg h1] at h
      by_cases h2 : b < a
      · rw [if_pos h2] at h; simp at h
      · rw [if_neg h2] at h
        rw [u8_tri h1 h2, cmp_zero h]
theorem cmp_swap : ∀ a b : Ks, compareBytes b a = - compareBytes a b
  | [], [] => rfl
  | [], _ :: _ => rfl
  | _ :: _, [] => rfl
  | a :: l1, b :: l2 => by
    unfold compareBytes
    by_cases h1 : a < b
    · have h2 : ¬ b < a := fun h => by have h1' : a.toNat < b.toNat := h1; have h' : b.toNat < a.toNat := h; omega
      rw [if_pos h1, if_neg h2, if_pos h1]; rfl
    · by_cases h2 : b < a
      · rw [if_pos h2, if_neg h1, if_pos h2]
      · rw [if_neg h1, if_neg h2, if_neg h2, if_neg h1]; exact cmp_swap l1 l2
theorem ltK_trans : ∀ {a b c : Ks}, ltK a b → ltK b c → ltK a c
  | [], [], _, h, _ => by simp [ltK, compareBytes] at h
  | [], _ :: _, [], _, h => by simp [ltK, compareBytes] at h
  | [], _ :: _, _ :: _, _, _ => by simp [ltK, compareBytes]
  | _ :: _, [], _, h, _ => by simp [ltK, compareBytes] at h
  | _ :: _, _ :: _, [], _, h => by simp [ltK, compareBytes] at h
  | a :: l1, b :: l2, c :: l3, h1, h2 => by
    unfold ltK compareBytes at h1 h2 ⊢
    by_cases p1 : a < b
    · by_cases q1 : b < c
      · have : a < c := by have p' : a.toNat < b.toNat := p1; have q' : b.toNat < c.toNat := q1; exact (show a.toNat < c.toNat by omega)
        rw [if_pos this]
      · rw [if_neg q1] at h2
        by_cases q2 : c < b
        · rw [if_pos q2] at h2; simp at h2
        · have : b = c := u8_tri q1 q2
          subst this
          rw [if_pos p1]
    · rw [if_neg p1] at h1
      by_cases p2 : b < a
      · rw [if_pos p2] at h1; simp at h1
      · have : a = b := u8_tri p1 p2
        subst this
        rw [if_neg p2] at h1
        by_cases q1 : a < c
        · rw [if_pos q1]
        · rw [if_neg q1] at h2 ⊢
          by_cases q2 : c < a
          · rw [if_pos q2] at h2; simp at h2
          · rw [if_neg q2] at h2 ⊢
            exact ltK_trans h1 h2
theorem ltK_irrefl (a : Ks) : ¬ ltK a a := by unfold ltK; rw [cmp_refl]; decide
theorem ltK_ne {a b : Ks} (h : ltK a b) : a ≠ b := fun e => by subst e; exact ltK_irrefl _ h
theorem ltK_asymm {a b : Ks} (h : ltK a b) : ¬ ltK b a := fun h2 => ltK_irrefl _ (ltK_trans h h2)
theorem ltK_tri (a b : Ks) : ltK a b ∨ a = b ∨ ltK b a := by
  rcases cmp_three a b with h | h | h
  · exact .inl h
  · exact .inr (.inl (cmp_zero h))
  · right; right; unfold ltK; rw [cmp_swap a b, h]
theorem not_ltK {a b : Ks} : ¬ ltK a b ↔ a = b ∨ ltK b a := by
  constructor
  · intro h; rcases ltK_tri a b with h1 | h1 | h1
    · exact absurd h1 h
    · exact .inl h1
    · exact .inr h1
  · rintro (rfl | h)
    · exact ltK_irrefl _
    · exact ltK_asymm h
theorem cmp_ge {a b : Ks} : (0 ≤ compareBytes a b) ↔ ¬ ltK a b := by
  unfold ltK; rcases cmp_three a b with h | h | h <;> rw [h] <;> decide

/-- How many of a rising list's keys stand ahead of a key. -/
def plK (N : List Ks) (k : Ks) : Nat := (N.takeWhile fun x => decide (ltK x k)).length
theorem plK_le (N : List Ks) (k : Ks) : plK N k ≤ N.length := by
  unfold plK; exact (List.takeWhile_sublist _).length_le
theorem plK_lt {N : List Ks} {k : Ks} {i : Nat} (h : i < plK N k) (hi : i < N.length) : ltK N[i] k := by
  induction N generalizing i with
  | nil => simp at hi
  | cons x N ih =>
    by_cases hx : ltK x k
    · have e : plK (x :: N) k = plK N k + 1 := by unfold plK; rw [List.takeWhile_cons_of_pos (by simpa using hx)]; rfl
      cases i with
      | zero => exact hx
      | succ i => exact ih (by omega) (by simpa using hi)
    · have e : plK (x :: N) k = 0 := by unfold plK; rw [List.takeWhile_cons_of_neg (by simpa using hx)]; rfl
      omega
theorem plK_ge {N : List Ks} {k : Ks} (hs : N.Pairwise ltK) {i : Nat} (h : plK N k ≤ i) (hi : i < N.length) : ¬ ltK N[i] k := by
  induction N generalizing i with
  | nil => simp at hi
  | cons x N ih =>
    rw [List.pairwise_cons] at hs
    by_cases hx : ltK x k
    · have e : plK (x :: N) k = plK N k + 1 := by unfold plK; rw [List.takeWhile_cons_of_pos (by simpa using hx)]; rfl
      cases i with
      | zero => omega
      | succ i =>
        rw [List.getElem_cons_succ]
        exact ih hs.2 (by omega) (by simpa using hi)
    · cases i with
      | zero => exact hx
      | succ i =>
        rw [List.getElem_cons_succ]
        intro h2
        have hm : N[i]'(by simpa using hi) ∈ N := List.getElem_mem _
        exact hx (ltK_trans (hs.1 _ hm) h2)
end Go.Proofs.Ytbadjigfcncfcaa

/- Heaps, as lists: what sinking does. -/
namespace Go.Proofs.Ytbadjigfcncfcaa

section
variable {α : Type}
theorem getD_set' (P : List α) (i j : Nat) (x z : α) (h : i < P.length) : (P.set i x).getD j z = if i = j then x else P.getD j z := by
  rw [List.getD_eq_getElem?_getD, List.getElem?_set]
  by_cases e : i = j
  · rw [if_pos e, if_pos e, if_pos h]; rfl
  · rw [if_neg e, if_neg e, ← List.getD_eq_getElem?_getD]
/-- Two places change. -/
def swp (z : α) (P : List α) (a b : Nat) : List α := (P.set a (P.getD b z)).set b (P.getD a z)
theorem swp_len (z : α) (P : List α) (a b : Nat) : (swp z P a b).length = P.length := by simp [swp]
theorem swp_at (z : α) {P : List α} {a b : Nat} (ha : a < P.length) (hb : b < P.length) (i : Nat) : (swp z P a b).getD i z = if b = i then P.getD a z else if a = i then P.getD b z else P.getD i z := by
  unfold swp
  rw [getD_set' _ _ _ _ _ (by simpa using hb), getD_set' _ _ _ _ _ ha]
theorem getD_get {P : List α} {i : Nat} (z : α) (h : i < P.length) : P.getD i z = P[i] := by simp [List.getD, h]
theorem swp_perm (z : α) {P : List α} {a b : Nat} (ha : a < P.length) (hb : b < P.length) : (swp z P a b).Perm P := by
  unfold swp
  rw [getD_get z ha, getD_get z hb]
  exact List.set_set_perm ha hb
/-- A heap from a place on. -/
def HQ (lt : α → α → Prop) (z : α) (P : List α) (s : Nat) : Prop := ∀ i, i < P.length → 0 < i → s ≤ (i - 1) / 2 → ¬ lt (P.getD i z) (P.getD ((i - 1) / 2) z)
/-- A heap from a place on, but for one that sinks. -/
structure HI (lt : α → α → Prop) (z : α) (P : List α) (s t : Nat) : Prop where
  i1 : ∀ i, i < P.length → 0 < i → s ≤ (i - 1) / 2 → (i - 1) / 2 ≠ t → ¬ lt (P.getD i z) (P.getD ((i - 1) / 2) z)
  i2 : s < t → s ≤ (t - 1) / 2 → ∀ c, c < P.length → 0 < c → (c - 1) / 2 = t → ¬ lt (P.getD c z) (P.getD ((t - 1) / 2) z)
  i3 : s ≤ t
theorem HI.start {lt : α → α → Prop} {z : α} {P : List α} {s : Nat} (h : HQ lt z P (s + 1)) : HI lt z P s s :=
  ⟨fun i h1 h2 h3 h4 => h i h1 h2 (by omega), fun h => absurd h (Nat.lt_irrefl _), Nat.le_refl _⟩
theorem HI.stop {lt : α → α → Prop} {z : α} {P : List α} {s t : Nat} (h : HI lt z P s t) (hc : ∀ c, c < P.length → 0 < c → (c - 1) / 2 = t → ¬ lt (P.getD c z) (P.getD t z)) : HQ lt z P s := by
  intro i h1 h2 h3
  by_cases e : (i - 1) / 2 = t
  · rw [e]; exact hc i h1 h2 e
  · exact h.i1 i h1 h2 h3 e
theorem HI.step {lt : α → α → Prop} {z : α} {P : List α} {s t b : Nat} (has : ∀ x y, lt x y → ¬ lt y x) (h : HI lt z P s t) (hb : b < P.length) (hbt : b = 2 * t + 1 ∨ b = 2 * t + 2)
    (hlt : lt (P.getD b z) (P.getD t z)) (hsib : ∀ c, c < P.length → (c = 2 * t + 1 ∨ c = 2 * t + 2) → c ≠ b → ¬ lt (P.getD c z) (P.getD b z)) : HI lt z (swp z P t b) s b := by
  have ht : t < P.length := by omega
  have h3 := h.i3
  refine ⟨fun i h1 h2 h3 h4 => ?_, fun _ _ c h1 h2 h3 => ?_, by omega⟩
  · rw [swp_len] at h1
    rw [swp_at z ht hb, swp_at z ht hb]
    by_cases e1 : b = i
    · subst e1
      rw [if_pos rfl, if_neg (by omega), if_pos (by omega)]
      exact has _ _ hlt
    · rw [if_neg e1]
      by_cases e2 : t = i
      · subst e2
        rw [if_pos rfl, if_neg (by omega), if_neg (by omega)]
        have h5 : s < t := by omega
        exact h.i2 h5 h3 b hb (by omega) (by omega)
      · rw [if_neg e2, if_neg (fun e => h4 e.symm)]
        by_cases e3 : t = (i - 1) / 2
        · rw [if_pos e3]
          exact hsib i h1 (by omega) (fun e => e1 e.symm)
        · rw [if_neg e3]
          exact h.i1 i h1 h2 h3 (fun e => e3 e.symm)
  · rw [swp_len] at h1
    rw [swp_at z ht hb, swp_at z ht hb, if_neg (by omega), if_neg (by omega), if_neg (by omega), if_pos (by omega)]
    have := h.i1 c h1 h2 (by omega) (by omega)
    rw [h3] at this
    exact this
theorem HQ.least {lt : α → α → Prop} {z : α} {P : List α} (h : HQ lt z P 0) (hir : ∀ x, ¬ lt x x) (htr : ∀ x y c, ¬ lt y x → ¬ lt c y → ¬ lt c x) : ∀ i, i < P.length → ¬ lt (P.getD i z) (P.getD 0 z) := by
  intro i
  induction i using Nat.strongRecOn with
  | _ i ih =>
    intro hi
    rcases Nat.eq_zero_or_pos i with rfl | h0
    · exact hir _
    · exact htr _ _ _ (ih ((i - 1) / 2) (by omega) (by omega)) (h i hi h0 (Nat.zero_le _))
end
end Go.Proofs.Ytbadjigfcncfcaa

/- Rows of entries, put together: what comes, as lists. -/
namespace Go.Proofs.Ytbadjigfcncfcaa

abbrev En := Ks × Ag
def agZ : Ag := ⟨0, false, 0, 0, 0⟩
def keysE (E : List En) : List Ks := E.map Prod.fst
/-- A key and the place of its row. -/
abbrev Kr := Ks × Nat
def ltT (x y : Kr) : Prop := ltK x.1 y.1 ∨ (x.1 = y.1 ∧ x.2 < y.2)
instance (x y : Kr) : Decidable (ltT x y) := inferInstanceAs (Decidable (_ ∨ _))
theorem ltT_irrefl (x : Kr) : ¬ ltT x x := by
  rintro (h | ⟨_, h⟩)
  · exact ltK_irrefl _ h
  · exact Nat.lt_irrefl _ h
theorem ltT_trans {x y z : Kr} (h1 : ltT x y) (h2 : ltT y z) : ltT x z := by
  rcases h1 with h1 | ⟨h1, h1'⟩
  · rcases h2 with h2 | ⟨h2, _⟩
    · exact .inl (ltK_trans h1 h2)
    · exact .inl (h2 ▸ h1)
  · rcases h2 with h2 | ⟨h2, h2'⟩
    · exact .inl (h1 ▸ h2)
    · exact .inr ⟨h1.trans h2, Nat.lt_trans h1' h2'⟩
theorem ltT_asymm {x y : Kr} (h : ltT x y) : ¬ ltT y x := fun h2 => ltT_irrefl _ (ltT_trans h h2)
theorem ltT_tri (x y : Kr) : ltT x y ∨ x = y ∨ ltT y x := by
  obtain ⟨a, m⟩ := x
  obtain ⟨b, n⟩ := y
  rcases ltK_tri a b with h | h | h
  · exact .inl (.inl h)
  · subst h
    rcases Nat.lt_trichotomy m n with h | h | h
    · exact .inl (.inr ⟨rfl, h⟩)
    · subst h; exact .inr (.inl rfl)
    · exact .inr (.inr (.inr ⟨rfl, h⟩))
  · exact .inr (.inr (.inl h))
theorem not_ltT {x y : Kr} : ¬ ltT x y ↔ x = y ∨ ltT y x := by
  constructor
  · intro h
    rcases ltT_tri x y with h1 | h1 | h1
    · exact absurd h1 h
    · exact .inl h1
    · exact .inr h1
  · rintro (rfl | h)
    · exact ltT_irrefl _
    · exact ltT_asymm h
theorem nltT_trans {x y c : Kr} (h1 : ¬ ltT y x) (h2 : ¬ ltT c y) : ¬ ltT c x := by
  rw [not_ltT] at *
  rcases h1 with rfl | h1
  · exact h2
  · rcases h2 with rfl | h2
    · exact .inr h1
    · exact .inr (ltT_trans h1 h2)
/-- An entry, and whose it is. -/
abbrev Tg := Kr × Ag
def ltG (x y : Tg) : Prop := ltT x.1 y.1
/-- What is left of a row, and its place. -/
abbrev Pa := List En × Nat
def hdT (p : Pa) : Kr := ((p.1.head?.map Prod.fst).getD [], p.2)
def ltP (p q : Pa) : Prop := ltT (hdT p) (hdT q)
def tagP (p : Pa) : List Tg := p.1.map fun e => ((e.1, p.2), e.2)
def tags (P : List Pa) : List Tg := P.flatMap tagP
structure GoodP (P : List Pa) : Prop where
  ne : ∀ p ∈ P, p.1 ≠ []
  so : ∀ p ∈ P, (keysE p.1).Pairwise ltK
  nd : (P.map Prod.snd).Nodup
theorem tags_perm {P Q : List Pa} (h : P.Perm Q) : (tags P).Perm (tags Q) := h.flatMap_right _
theorem GoodP.perm {P Q : List Pa} (h : GoodP P) (hp : Q.Perm P) : GoodP Q :=
  ⟨fun p hq => h.ne p (hp.mem_iff.1 hq), fun p hq => h.so p (hp.mem_iff.1 hq), (hp.map Prod.snd).nodup_iff.2 h.nd⟩
/-- Behind the least one stand all others. -/
theorem tags_rest {p : Pa} {P : List Pa} {e : En} {es : List En} (hg : GoodP (p :: P)) (hp : p.1 = e :: es) (hmin : ∀ q ∈ P, ¬ ltP q p) : ∀ t ∈ tags ((es, p.2) :: P), ltT (e.1, p.2) t.1 := by
  intro t ht
  obtain ⟨q, hq, ht⟩ := List.mem_flatMap.1 ht
  unfold tagP at ht
  obtain ⟨x, hx, rfl⟩ := List.mem_map.1 ht
  rcases List.mem_cons.1 hq with rfl | hq
  · have hs := hg.so p (List.mem_cons_self ..)
    rw [hp] at hs
    simp only [keysE, List.map_cons, List.pairwise_cons] at hs
    exact .inl (hs.1 x.1 (List.mem_map.2 ⟨x, hx, rfl⟩))
  · have hne := hg.ne q (List.mem_cons_of_mem _ hq)
    have hs := hg.so q (List.mem_cons_of_mem _ hq)
    have hm := hmin q hq
    obtain ⟨ys, n⟩ := q
    match ys, hne with
    | y :: ys, _ =>
      have h1 : hdT (y :: ys, n) = (y.1, n) := rfl
      have h2 : hdT p = (e.1, p.2) := by unfold hdT; rw [hp]; rfl
      unfold ltP at hm
      rw [h1, h2] at hm
      have hrow : p.2 ≠ n := by
        have hn := hg.nd
        simp only [List.map_cons, List.nodup_cons] at hn
        intro h
        exact hn.1 (h ▸ List.mem_map.2 ⟨_, hq, rfl⟩)
      have h3 : ltT (e.1, p.2) (y.1, n) := by
        rcases not_ltT.1 hm with h | h
        · exact absurd (congrArg Prod.snd h).symm hrow
        · exact h
      rcases List.mem_cons.1 hx with rfl | hx
      · exact h3
      · simp only [keysE, List.map_cons, List.pairwise_cons] at hs
        exact ltT_trans h3 (.inl (hs.1 x.1 (List.mem_map.2 ⟨x, hx, rfl⟩)))
def leG (x y : Tg) : Bool := decide (¬ ltT y.1 x.1)
def srtG (l : List Tg) : List Tg := l.mergeSort leG
theorem srtG_perm (l : List Tg) : (srtG l).Perm l := List.mergeSort_perm l leG
theorem leG_trans (a b c : Tg) (h1 : leG a b = true) (h2 : leG b c = true) : leG a c = true := by
  simp only [leG, decide_eq_true_eq] at *
  exact nltT_trans h1 h2
theorem leG_total (a b : Tg) : (leG a b || leG b a) = true := by
  simp only [leG, Bool.or_eq_true, decide_eq_true_eq]
  by_cases h : ltT b.1 a.1
  · exact .inr (ltT_asymm h)
  · exact .inl h
/-- No two are of one key and one row. -/
def dist (l : List Tg) : Prop := (l.map Prod.fst).Nodup
theorem dist.perm {l m : List Tg} (h : dist l) (hp : m.Perm l) : dist m := (hp.map Prod.fst).nodup_iff.2 h
theorem dist_pw : ∀ {l : List Tg}, l.Pairwise (fun a b => leG a b = true) → dist l → l.Pairwise ltG
  | [], _, _ => .nil
  | x :: l, h, hd => by
    rw [List.pairwise_cons] at h ⊢
    unfold dist at hd
    rw [List.map_cons, List.nodup_cons] at hd
    refine ⟨fun y hy => ?_, dist_pw h.2 hd.2⟩
    have h1 := h.1 y hy
    simp only [leG, decide_eq_true_eq] at h1
    rcases not_ltT.1 h1 with e | e
    · exact absurd (e ▸ List.mem_map.2 ⟨y, hy, rfl⟩) hd.1
    · exact e
theorem srtG_pw {l : List Tg} (h : dist l) : (srtG l).Pairwise ltG :=
  dist_pw (List.pairwise_mergeSort leG_trans leG_total l) (h.perm (srtG_perm l))
theorem pw_unique {l m : List Tg} (hl : l.Pairwise ltG) (hm : m.Pairwise ltG) (hp : l.Perm m) : l = m :=
  List.Perm.eq_of_pairwise (fun _ _ _ _ h1 h2 => absurd h2 (ltT_asymm h1)) hl hm hp
theorem pw_dist {l : List Tg} (h : l.Pairwise ltG) : dist l := by
  unfold dist
  rw [List.Nodup, List.pairwise_map]
  refine h.imp ?_
  intro a b hab e
  unfold ltG at hab
  rw [e] at hab
  exact ltT_irrefl _ hab
/-- What is told next. -/
theorem next_tag {p : Pa} {P : List Pa} {e : En} {es : List En} {T : List Tg} (hg : GoodP (p :: P)) (hp : p.1 = e :: es) (hmin : ∀ q ∈ P, ¬ ltP q p) (hT : T.Pairwise ltG) (hperm : T.Perm (tags (p :: P))) :
    ∃ T', T = ((e.1, p.2), e.2) :: T' ∧ T'.Pairwise ltG ∧ T'.Perm (tags ((es, p.2) :: P)) := by
  have h1 : tags (p :: P) = ((e.1, p.2), e.2) :: tags ((es, p.2) :: P) := by
    unfold tags
    rw [List.flatMap_cons, List.flatMap_cons]
    unfold tagP
    rw [hp]; rfl
  have hd : dist (tags (p :: P)) := (pw_dist hT).perm hperm.symm
  rw [h1] at hd
  have hd' : dist (tags ((es, p.2) :: P)) := by
    unfold dist at hd ⊢
    rw [List.map_cons, List.nodup_cons] at hd
    exact hd.2
  refine ⟨srtG (tags ((es, p.2) :: P)), ?_, srtG_pw hd', srtG_perm _⟩
  refine pw_unique hT ?_ (hperm.trans ?_)
  · rw [List.pairwise_cons]
    exact ⟨fun t ht => tags_rest hg hp hmin t ((srtG_perm _).mem_iff.1 ht), srtG_pw hd'⟩
  · rw [h1]; exact (srtG_perm _).symm.cons _
/-- Rows as parts, from a place on. -/
def partsF : Nat → List (List En) → List Pa
  | _, [] => []
  | i, r :: rs => if r = [] then partsF (i + 1) rs else (r, i) :: partsF (i + 1) rs
def tagsF : Nat → List (List En) → List Tg
  | _, [] => []
  | i, r :: rs => tagP (r, i) ++ tagsF (i + 1) rs
theorem tags_parts : ∀ (rs : List (List En)) (i : Nat), tags (partsF i rs) = tagsF i rs
  | [], _ => rfl
  | r :: rs, i => by
    unfold partsF tagsF
    by_cases h : r = []
    · rw [if_pos h, tags_parts rs (i + 1), h]; rfl
    · rw [if_neg h, ← tags_parts rs (i + 1)]; rfl
theorem parts_ge : ∀ (rs : List (List En)) (i : Nat), ∀ p ∈ partsF i rs, i ≤ p.2 ∧ p.1 ∈ rs ∧ p.1 ≠ [] ∧ p.2 < i + rs.length
  | [], _, p, h => by simp [partsF] at h
  | r :: rs, i, p, h => by
    unfold partsF at h
    by_cases e : r = []
    · rw [if_pos e] at h
      obtain ⟨h1, h2, h3, h4⟩ := parts_ge rs (i + 1) p h
      exact ⟨by omega, List.mem_cons_of_mem _ h2, h3, by simp; omega⟩
    · rw [if_neg e] at h
      rcases List.mem_cons.1 h with rfl | h
      · exact ⟨Nat.le_refl _, List.mem_cons_self .., e, by simp⟩
      · obtain ⟨h1, h2, h3, h4⟩ := parts_ge rs (i + 1) p h
        exact ⟨by omega, List.mem_cons_of_mem _ h2, h3, by simp; omega⟩
theorem parts_nd : ∀ (rs : List (List En)) (i : Nat), ((partsF i rs).map Prod.snd).Nodup
  | [], _ => List.nodup_nil
  | r :: rs, i => by
    unfold partsF
    by_cases e : r = []
    · rw [if_pos e]; exact parts_nd rs (i + 1)
    · rw [if_neg e, List.map_cons, List.nodup_cons]
      refine ⟨fun h => ?_, parts_nd rs (i + 1)⟩
      obtain ⟨p, hp, hpe⟩ := List.mem_map.1 h
      have := (parts_ge rs (i + 1) p hp).1
      simp only at hpe
      omega
/-- May entries be a row? -/
def rowF (L : List En) : Int := if ¬ (keysE L).Pairwise ltK then 50 else if L.all (fun x => rightB x.2) then 0 else 3
def rowsF : List (List En) → Int
  | [] => 0
  | r :: rs => if rowF r = 0 then rowsF rs else rowF r
theorem rowF_ok {L : List En} (h : rowF L = 0) : (keysE L).Pairwise ltK ∧ ∀ x ∈ L, rightB x.2 = true := by
  unfold rowF at h
  split at h
  · simp at h
  · rename_i h1
    split at h
    · rename_i h2
      exact ⟨Classical.not_not.1 h1, fun x hx => List.all_eq_true.1 h2 x hx⟩
    · simp at h
theorem rowF_of {L : List En} (h : (keysE L).Pairwise ltK) (h2 : ∀ x ∈ L, rightB x.2 = true) : rowF L = 0 := by
  unfold rowF
  rw [if_neg (fun hn => hn h), if_pos (List.all_eq_true.2 h2)]
theorem rowsF_ok : ∀ {rs : List (List En)}, rowsF rs = 0 ↔ ∀ r ∈ rs, rowF r = 0
  | [] => by simp [rowsF]
  | r :: rs => by
    unfold rowsF
    by_cases h : rowF r = 0
    · rw [if_pos h, rowsF_ok (rs := rs)]; simp [h]
    · rw [if_neg h]; simp [h]
theorem good_parts {rs : List (List En)} (h : rowsF rs = 0) (i : Nat) : GoodP (partsF i rs) :=
  ⟨fun p hp => (parts_ge rs i p hp).2.2.1, fun p hp => (rowF_ok (rowsF_ok.1 h _ (parts_ge rs i p hp).2.1)).1, parts_nd rs i⟩
theorem tagP_dist {r : List En} {i : Nat} (h : (keysE r).Pairwise ltK) : ((tagP (r, i)).map Prod.fst).Nodup := by
  unfold tagP
  rw [List.map_map, List.Nodup, List.pairwise_map]
  unfold keysE at h
  rw [List.pairwise_map] at h
  refine h.imp (fun {a b} hab e => ?_)
  have : a.1 = b.1 := congrArg (fun x : Kr => x.1) e
  exact ltK_ne hab this
theorem tags_ge : ∀ (rs : List (List En)) (i : Nat), ∀ t ∈ tagsF i rs, i ≤ t.1.2
  | [], _, t, h => by simp [tagsF] at h
  | r :: rs, i, t, h => by
    unfold tagsF at h
    rcases List.mem_append.1 h with h | h
    · unfold tagP at h
      obtain ⟨x, _, rfl⟩ := List.mem_map.1 h
      exact Nat.le_refl _
    · have := tags_ge rs (i + 1) t h; omega
theorem tags_dist : ∀ (rs : List (List En)) (i : Nat), (∀ r ∈ rs, (keysE r).Pairwise ltK) → dist (tagsF i rs)
  | [], _, _ => List.nodup_nil
  | r :: rs, i, h => by
    unfold dist tagsF
    rw [List.map_append, List.nodup_append]
    refine ⟨tagP_dist (h r (List.mem_cons_self ..)), tags_dist rs (i + 1) (fun x hx => h x (List.mem_cons_of_mem _ hx)), fun x hx y hy e => ?_⟩
    subst e
    obtain ⟨t, ht, rfl⟩ := List.mem_map.1 hx
    obtain ⟨u, hu, hue⟩ := List.mem_map.1 hy
    unfold tagP at ht
    obtain ⟨z, _, rfl⟩ := List.mem_map.1 ht
    have h1 := tags_ge rs (i + 1) u hu
    rw [hue] at h1
    simp only at h1
    omega
/-- All entries of all rows, in order. -/
def seqF (rs : List (List En)) : List Tg := srtG (tagsF 0 rs)
theorem seqF_pw {rs : List (List En)} (h : rowsF rs = 0) : (seqF rs).Pairwise ltG := srtG_pw (tags_dist rs 0 (fun r hr => (rowF_ok (rowsF_ok.1 h r hr)).1))
/-- One more entry. -/
def addG (E : List En) (t : Tg) : List En := match E.getLast? with
  | none => [(t.1.1, t.2)]
  | some l => if l.1 = t.1.1 then E.dropLast ++ [(l.1, mrg l.2 t.2)] else E ++ [(t.1.1, t.2)]
def grpG (T : List Tg) : List En := T.foldl addG []
/-- All rows together. -/
def allF (rs : List (List En)) : List En := grpG (seqF rs)
end Go.Proofs.Ytbadjigfcncfcaa

/- Bytes, as an argument: what the slice reads. -/
namespace Go.Proofs.Ytbadjigfcncfcaa
open Go.ChangeShapes Go.WideShapes Go.ChangeAt Go.RowKit Go.Joins

theorem cell_block {w : World} {a : Addr} {v : Value} (h : w.cell? a = some v) : a.block < w.heap.size ∧ a.spot = none := by
  unfold World.cell? at h
  rcases Nat.lt_or_ge a.block w.heap.size with hb | hb
  · refine ⟨hb, ?_⟩
    split at h
    · split at h
      · cases h
      · rename_i hs; cases hsp : a.spot with
        | none => rfl
        | some s => rw [hsp] at hs; simp at hs
    · cases h
  · rw [Array.getElem?_eq_none hb] at h; cases h
set_option maxRecDepth 100000 in
theorem openB {H : Type} {enc : TypeId × Value → H} {W : World} {r : Reach} {b0 base : Nat} {spare : Nat → Bool} {held : Bool} {v : Value} {d : DataW H} {p : List MemPlace}
    (hv : Value.okWide Try.prog W r b0 57 v) (h : DataW.Trod enc Try.prog W base spare held 57 v d p) :
    ∃ l : List UInt8, Reads W v l := by
  obtain ⟨a, len, cap, rfl⟩ := okWide_slice Try.underlying57 hv
  obtain ⟨fuel, hf⟩ := h
  rcases open_ints Try.underlying57 Try.underlying5 (by kernel_rfl) hf with ⟨hcs, _⟩ | ⟨x, l, c, zs, hcs, _, hl, hm, hz, _, hcell, hwz⟩
  · simp [Value.cells] at hcs
    obtain ⟨rfl, rfl, rfl⟩ := hcs
    exact ⟨[], .inl ⟨rfl, _, _, rfl, fun _ => rfl⟩⟩
  · simp [Value.cells] at hcs
    obtain ⟨rfl, rfl, rfl⟩ := hcs
    have hzl : len ≤ zs.length := by rw [hz]; split <;> omega
    rcases Nat.eq_zero_or_pos len with h0 | h0
    · subst h0; exact ⟨[], .inl ⟨rfl, _, _, rfl, fun h => by cases h⟩⟩
    · refine ⟨(zs.take len).map fun z => UInt8.ofNat z.toNat, .inr ?_⟩
      have hlen : ((zs.take len).map fun z => UInt8.ofNat z.toNat).length = len := by simp; omega
      have c0 := hcell 0 (by omega)
      have e0 : x.add 0 = x := by simp [Addr.add]
      rw [e0] at c0
      obtain ⟨hb, hs⟩ := cell_block c0
      obtain ⟨b, off, spot⟩ := x
      simp only at hb hs
      subst hs
      refine ⟨b, off, cap, by rw [hlen], by omega, by omega, hm, hb, fun j hj => ?_⟩
      have hj' : j < len := by omega
      have cj := hcell j (by omega)
      have ea : (⟨b, off, none⟩ : Addr).add j = ⟨b, off + j, none⟩ := by simp [Addr.add]
      rw [ea] at cj
      rw [cj]
      have hzj : j < zs.length := by omega
      have hg : zs.getD j 0 = zs[j] := by simp [List.getD, hzj]
      have hw := bounds_u8 (hwz zs[j] (List.getElem_mem hzj))
      rw [hg]
      have e1 : ((zs.take len).map fun z => UInt8.ofNat z.toNat)[j] = UInt8.ofNat (zs[j]).toNat := by simp
      rw [e1]
      unfold bc
      have e2 : (UInt8.ofNat (zs[j]).toNat).toNat = (zs[j]).toNat := by simp [UInt8.toNat_ofNat']; omega
      rw [e2]
      congr 2
      omega
end Go.Proofs.Ytbadjigfcncfcaa

/- Bytes that are copied into bytes of one's own; bytes just made. -/
namespace Go.Proofs.Ytbadjigfcncfcaa
open Go.RowKit

theorem copy_own {w : World} {base g n off : Nat} {L l : List UInt8} {v : Value} (ty : TypeId) (hO : Own w base (.slice (some ⟨g, 0, none⟩) n n) L) (hR : Reads w v l) (h0 : 0 < l.length) (hl : off + l.length = n) :
    ∃ w3, (Builtin.copy_ #[57, 57] ty #[.slice (some ⟨g, off, none⟩) (n - off) (n - off), v]).run Try.prog w = .ok (goInt l.length) w3 ∧ Own w3 base (.slice (some ⟨g, 0, none⟩) n n) (L.take off ++ l) ∧ Hid (Below base w w3) ∧ Hid (w.grownBy w3 (some g)) := by
  obtain ⟨i0, hi, hz0, hz1, hz2⟩ := info_parts info5
  have hLn : L.length = n := by
    obtain ⟨a, cap, hv, _⟩ := hO.form
    simp at hv; omega
  have hOw := hO
  obtain ⟨h1, h2⟩ := hO
  rcases h2 with ⟨h2, _⟩ | ⟨g', cap, cur, hv, hg, hw, hn, hm, hs, ht⟩
  · simp at h2
  · simp at hv
    obtain ⟨rfl, hv2, rfl⟩ := hv
    rcases hR with ⟨rfl, _⟩ | ⟨b, o, cp, rfl, r2, r3, r4, r5, r6⟩
    · simp at h0
    · have hcl : cur.toList = L.map bc := by
        rw [← ht, List.take_of_length_le (by simp; omega)]
      have hrun := run_copy_row (P := Try.prog) w 57 57 ty 5 g off (n - off) (n - off) ⟨b, o, none⟩ l.length cp cur 5 (l.map bc) Try.underlying57 (by rw [hi]; simp [hz1]) hw (by rw [List.length_map]; exact (Nat.min_eq_left (by omega)).symm) (newsR r6) (by simp; omega) one_bc
      rw [List.length_map] at hrun
      refine ⟨_, hrun, ?_, below_setRow (Below.refl _ _) hg _, ?_⟩
      · have hheap := setRow_heap w g cur (cur.toList.take off ++ l.map bc ++ cur.toList.drop (off + l.length)).toArray 5 (0, 0) hw
        have e1 : cur.toList.take off ++ l.map bc ++ cur.toList.drop (off + l.length) = (L.take off ++ l).map bc := by
          rw [hcl, hl, List.drop_of_length_le (by simp; omega), List.append_nil, List.map_append, List.map_take]
        rw [e1] at hheap ⊢
        have hlen : (L.take off ++ l).length = n := by simp; omega
        refine ⟨by simp, .inr ⟨g, n, _, by rw [hlen], hg, hheap, by omega, hm, by simp; omega, ?_⟩⟩
        rw [hlen, List.toList_toArray, Nat.mul_one]; exact List.take_of_length_le (by rw [List.length_map]; omega)
      · have hb := below_setRow (Below.refl 0 w) (Nat.zero_le g) (cur.toList.take off ++ l.map bc ++ cur.toList.drop (off + l.length)).toArray
        refine ⟨rfl, rfl, rfl, hb.size, fun k hk hne => ?_⟩
        show (w.heap.modify g _)[k]? = _
        rw [Array.getElem?_modify, if_neg (fun e => hne (by rw [e]))]
/-- The same, at one operation. -/
theorem wp_copy {w : World} {o : Oper} {a : Act} {K : Act → World → Prop} {Q : Exit → Act → World → Prop} (d s : Operand)
    (ho : o.op = .call { callee := .builtin .copy, args := #[d, s], argTypes := #[57, 57] }) (base g n off m : Nat) (L l : List UInt8) (v : Value) (hm : n - off = m)
    (hd : a.eval d = .slice (some ⟨g, off, none⟩) m m) (hs : a.eval s = v) (hO : Own w base (.slice (some ⟨g, 0, none⟩) n n) L) (hR : Reads w v l) (h0 : 0 < l.length) (hl : off + l.length = n)
    (h : ∀ w', Own w' base (.slice (some ⟨g, 0, none⟩) n n) (L.take off ++ l) → Hid (Below base w w') → Hid (w.grownBy w' (some g)) → K (a.put o.dst (goInt l.length)) w') : o.wp Try.prog a w K Q := by
  subst hm
  obtain ⟨w', hrun, h1, h2, h3⟩ := copy_own (w := w) (off := off) o.type hO hR h0 hl
  unfold Oper.wp
  simp [execOp, ho, resolve, invoke, builtin, hd, hs, hrun, Result.andThen]
  exact h w' h1 h2 h3
theorem own_zeros {w2 : World} {base g n cap : Nat} (h : w2.ownsRow base 5 1 (.slice (some ⟨g, 0, none⟩) n cap) n (madeCells (Value.int .u8 0).cells n).toList) : Own w2 base (.slice (some ⟨g, 0, none⟩) n cap) (List.replicate n 0) := by
  have e0 : (Value.int .u8 0).cells = #[.int .u8 0] := rfl
  rw [e0, toList_madeCells_one] at h
  unfold Own; simpa [bc] using h
end Go.Proofs.Ytbadjigfcncfcaa

/- Entries in memory: those that a slice reads, and those of one's own; rows of them, as arguments. -/
namespace Go.Proofs.Ytbadjigfcncfcaa
open Go.ChangeShapes Go.WideShapes Go.ChangeAt Go.RowKit Go.Joins

def agv (a : Ag) : Value := .agg #[.int .u64 a.c, .bool a.o, .int .i64 (hi a.s), .int .u64 (lo a.s), .int .i64 a.mn, .int .i64 a.mx]
def env (kv : Value) (a : Ag) : Value := .agg #[kv, .int .u64 a.c, .bool a.o, .int .i64 (hi a.s), .int .u64 (lo a.s), .int .i64 a.mn, .int .i64 a.mx]
theorem cell_row {w : World} {b : Nat} {cs : Array Value} {T : TypeId} (h : w.heap[b]? = some (.cells cs T)) (i : Nat) (hi : i < cs.size) : w.cell? ⟨b, i, none⟩ = some cs[i] ∧ w.frozen? ⟨b, i, none⟩ = false := by
  refine ⟨by simp [World.cell?, h, hi], by simp [World.frozen?, h]⟩
/-- An entry in memory: its key's slice, its key, what is known. -/
structure Ev where
  kv : Value
  k : Ks
  a : Ag
def c7 (x : Ev) : List Value := [x.kv, .int .u64 x.a.c, .bool x.a.o, .int .i64 (hi x.a.s), .int .u64 (lo x.a.s), .int .i64 x.a.mn, .int .i64 x.a.mx]
def evE (x : Ev) : En := (x.k, x.a)
/-- A slice of entries of one's own. -/
def EOwn (W : World) (base : Nat) (v : Value) (xs : List Ev) : Prop := W.ownsRow base 59 7 v xs.length (xs.flatMap c7) ∧ ∀ x ∈ xs, Own W base x.kv x.k
theorem c7_len (x : Ev) : (c7 x).length = 7 := rfl
theorem flat7 : ∀ (xs : List Ev) (j i : Nat) (hj : j < xs.length), i < 7 → (xs.flatMap c7)[7 * j + i]? = (c7 xs[j])[i]?
  | [], j, i, hj, _ => by simp at hj
  | x :: xs, 0, i, _, hi => by
    rw [List.flatMap_cons, List.getElem?_append_left (by rw [c7_len]; omega)]; simp
  | x :: xs, j + 1, i, hj, hi => by
    rw [List.flatMap_cons, List.getElem?_append_right (by rw [c7_len]; omega), c7_len, show 7 * (j + 1) + i - 7 = 7 * j + i by omega]
    exact flat7 xs j i (by simpa using hj) hi
/-- What a slice of entries holds. -/
theorem EOwn.at {w : World} {base : Nat} {v : Value} {xs : List Ev} (h : EOwn w base v xs) : ∃ a cap, v = .slice a xs.length cap ∧ xs.length ≤ cap ∧ cap ≤ maxLen ∧ (0 < xs.length → ∃ g, a = some ⟨g, 0, none⟩ ∧ base ≤ g ∧ g < w.heap.size ∧ ∀ j (hj : j < xs.length) (i : Nat) (hi : i < 7), w.cell? ⟨g, 7 * j + i, none⟩ = some ((c7 xs[j])[i]'hi) ∧ w.frozen? ⟨g, 7 * j + i, none⟩ = false) := by
  have hlt := World.ownsRow.lt h.1
  rcases h.1.2 with ⟨h1, h2⟩ | ⟨g, cap, cur, hv, hg, hw, hc, hm, _⟩
  · exact ⟨none, 0, by rw [h1, h2], by omega, by simp, fun h0 => by omega⟩
  · have hr := h.1
    rw [hv] at hr
    refine ⟨_, cap, hv, hc, hm, fun _ => ⟨g, rfl, hg, (hlt g (by rw [hv]; rfl)).2, fun j hj i hi => ⟨?_, World.ownsRow.frozenAt hr _⟩⟩⟩
    rw [World.ownsRow.cellAt hr _ (by omega), flat7 xs j i hj hi, List.getElem?_eq_getElem hi]
theorem cellsA : Try.prog.cellsOf 53 = 6 := by kernel_rfl
theorem cellsWd : Try.prog.cellsOf 51 = 2 := by kernel_rfl
theorem cells64 : Try.prog.cellsOf 2 = 1 := by kernel_rfl
theorem cellsU64 : Try.prog.cellsOf 49 = 1 := by kernel_rfl
theorem cellsBool : Try.prog.cellsOf 4 = 1 := by kernel_rfl
theorem array6 {α : Type} {cs : Array α} (h : cs.size = 6) : ∃ c0 c1 c2 c3 c4 c5, cs = #[c0, c1, c2, c3, c4, c5] := by
  obtain ⟨l⟩ := cs
  match l, h with
  | [c0, c1, c2, c3, c4, c5], _ => exact ⟨c0, c1, c2, c3, c4, c5, rfl⟩
theorem some_of_len {α : Type} {xs : List α} {n i : Nat} (h : xs.length = n) (hi : i < n) : ∃ y, xs[i]? = some y := ⟨xs[i], by rw [List.getElem?_eq_getElem (by omega)]⟩

/-- The facts on what is known that come with its kind. -/
structure AgOk (a : Ag) : Prop where
  c1 : 0 ≤ a.c
  c2 : a.c < 18446744073709551616
  n1 : -9223372036854775808 ≤ a.mn
  n2 : a.mn ≤ 9223372036854775807
  x1 : -9223372036854775808 ≤ a.mx
  x2 : a.mx ≤ 9223372036854775807
  s1 : -170141183460469231731687303715884105728 ≤ a.s
  s2 : a.s < 170141183460469231731687303715884105728

set_option maxRecDepth 100000 in
theorem openA' {H : Type} {enc : TypeId × Value → H} {W : World} {base : Nat} {spare : Nat → Bool} {held : Bool} {c0 c1 c2 c3 c4 c5 : Value} {x : DataW H × List MemPlace} {fuel : Nat}
    (hf : DataW.trod enc Try.prog W base spare held fuel 53 [c0, c1, c2, c3, c4, c5] = some x) :
    ∃ a : Ag, [c0, c1, c2, c3, c4, c5] = [.int .u64 a.c, .bool a.o, .int .i64 (hi a.s), .int .u64 (lo a.s), .int .i64 a.mn, .int .i64 a.mx] ∧ AgOk a := by
  obtain ⟨xs, n, _, _, _, hlen, hfs⟩ := DataW.trod_struct Try.underlying53 hf
  obtain ⟨y0, g0⟩ := some_of_len (i := 0) hlen (by decide)
  obtain ⟨y1, g1⟩ := some_of_len (i := 1) hlen (by decide)
  obtain ⟨y2, g2⟩ := some_of_len (i := 2) hlen (by decide)
  obtain ⟨y3, g3⟩ := some_of_len (i := 3) hlen (by decide)
  obtain ⟨y4, g4⟩ := some_of_len (i := 4) hlen (by decide)
  have e0 := (hfs 0 _ rfl).trans g0
  have e1 := (hfs 1 _ rfl).trans g1
  have e2 := (hfs 2 _ rfl).trans g2
  have e3 := (hfs 3 _ rfl).trans g3
  have e4 := (hfs 4 _ rfl).trans g4
  simp [cellsU64] at e0
  simp [cellsBool] at e1
  simp [cellsWd] at e2
  simp [cells64] at e3
  simp [cells64] at e4
  obtain ⟨a0, q0, _, w0⟩ := DataW.trod_int Try.underlying49 e0
  obtain ⟨a1, q1, _⟩ := DataW.trod_bool Try.underlying4 e1
  obtain ⟨a3, q3, _, w3⟩ := DataW.trod_int Try.underlying2 e3
  obtain ⟨a4, q4, _, w4⟩ := DataW.trod_int Try.underlying2 e4
  obtain ⟨z0, z1, m, _, _, f0, f1⟩ := trod_struct2 Try.underlying51 e2
  simp [cells64] at f0
  simp [cellsU64] at f1
  obtain ⟨s0, t0, _, u0⟩ := DataW.trod_int Try.underlying2 f0
  obtain ⟨s1, t1, _, u1⟩ := DataW.trod_int Try.underlying49 f1
  simp at q0 q1 q3 q4 t0 t1
  subst q0 q1 q3 q4 t0 t1
  have b0 := bounds_u64 w0
  have b3 := bounds_i64 w3
  have b4 := bounds_i64 w4
  have d0 := bounds_i64 u0
  have d1 := bounds_u64 u1
  obtain ⟨sx, x1, x2, rfl, rfl⟩ := of_halves s0 s1 (by omega) (by omega) (by omega) (by omega)
  exact ⟨⟨a0, a1, sx, a3, a4⟩, rfl, b0.1, (by have := b0.2; show a0 < _; omega), b3.1, b3.2, b4.1, b4.2, x1, x2⟩
set_option maxRecDepth 100000 in
theorem openB' {H : Type} {enc : TypeId × Value → H} {W : World} {base : Nat} {spare : Nat → Bool} {held : Bool} {cs : List Value} {x : DataW H × List MemPlace} {fuel : Nat}
    (hf : DataW.trod enc Try.prog W base spare held fuel 57 cs = some x) : ∃ v l, cs = [v] ∧ Reads W v l := by
  rcases open_ints Try.underlying57 Try.underlying5 (by kernel_rfl) hf with ⟨rfl, _⟩ | ⟨x, len, cap, zs, rfl, _, hl, hm, hz, _, hcell, hwz⟩
  · exact ⟨_, [], rfl, .inl ⟨rfl, _, _, rfl, fun _ => rfl⟩⟩
  · have hzl : len ≤ zs.length := by rw [hz]; split <;> omega
    rcases Nat.eq_zero_or_pos len with h0 | h0
    · subst h0; exact ⟨_, [], rfl, .inl ⟨rfl, _, _, rfl, fun h => by cases h⟩⟩
    · refine ⟨_, (zs.take len).map fun z => UInt8.ofNat z.toNat, rfl, .inr ?_⟩
      have hlen : ((zs.take len).map fun z => UInt8.ofNat z.toNat).length = len := by simp; omega
      have c0 := hcell 0 (by omega)
      have e0 : x.add 0 = x := by simp [Addr.add]
      rw [e0] at c0
      obtain ⟨hb, hs⟩ := cell_block c0
      obtain ⟨b, off, spot⟩ := x
      simp only at hb hs
      subst hs
      refine ⟨b, off, cap, by rw [hlen], by omega, by omega, hm, hb, fun j hj => ?_⟩
      have hj' : j < len := by omega
      have cj := hcell j (by omega)
      have ea : (⟨b, off, none⟩ : Addr).add j = ⟨b, off + j, none⟩ := by simp [Addr.add]
      rw [ea] at cj
      rw [cj]
      have hzj : j < zs.length := by omega
      have hg : zs.getD j 0 = zs[j] := by simp [List.getD, hzj]
      have hw := bounds_u8 (hwz zs[j] (List.getElem_mem hzj))
      rw [hg]
      have e1 : ((zs.take len).map fun z => UInt8.ofNat z.toNat)[j] = UInt8.ofNat (zs[j]).toNat := by simp
      rw [e1]
      unfold bc
      have e2 : (UInt8.ofNat (zs[j]).toNat).toNat = (zs[j]).toNat := by simp [UInt8.toNat_ofNat']; omega
      rw [e2]
      congr 2
      omega
theorem seven_of {α : Type} : ∀ {l : List α}, l.length = 7 → ∃ c0 c1 c2 c3 c4 c5 c6, l = [c0, c1, c2, c3, c4, c5, c6]
  | [c0, c1, c2, c3, c4, c5, c6], _ => ⟨c0, c1, c2, c3, c4, c5, c6, rfl⟩
set_option maxRecDepth 100000 in
/-- The seven cells of an entry. -/
theorem openE' {H : Type} {enc : TypeId × Value → H} {W : World} {base : Nat} {spare : Nat → Bool} {held : Bool} {c0 c1 c2 c3 c4 c5 c6 : Value} {x : DataW H × List MemPlace} {fuel : Nat}
    (hf : DataW.trod enc Try.prog W base spare held fuel 59 [c0, c1, c2, c3, c4, c5, c6] = some x) :
    ∃ (kv : Value) (k : Ks) (a : Ag), [c0, c1, c2, c3, c4, c5, c6] = c7 ⟨kv, k, a⟩ ∧ Reads W kv k ∧ AgOk a := by
  obtain ⟨z0, z1, m, _, _, f0, f1⟩ := trod_struct2 Try.underlying59 hf
  have ck : Try.prog.cellsOf 57 = 1 := by kernel_rfl
  simp [ck] at f0
  simp [cellsA] at f1
  obtain ⟨kv, k, e0, hr⟩ := openB' f0
  obtain ⟨a, e1, ha⟩ := openA' f1
  simp at e0
  subst e0
  refine ⟨c0, k, a, ?_, hr, ha⟩
  rw [e1]; rfl
def CnOk (a : Ag) : Prop := 0 ≤ a.c ∧ a.c < 18446744073709551616
theorem AgOk.cn {a : Ag} (h : AgOk a) : CnOk a := ⟨h.c1, h.c2⟩
/-- A slice reads these entries. -/
def EReads (w : World) (v : Value) (L : List En) : Prop :=
  ∃ a cap, v = .slice a L.length cap ∧ L.length ≤ cap ∧ cap ≤ maxLen ∧ (L = [] ∨ ∃ b off, a = some ⟨b, off, none⟩ ∧ b < w.heap.size ∧ ∀ j (hj : j < L.length), ∃ kv, (∀ i (hi : i < 7), w.cell? ⟨b, off + (7 * j + i), none⟩ = some ((c7 ⟨kv, L[j].1, L[j].2⟩)[i]'hi)) ∧ Reads w kv L[j].1 ∧ CnOk L[j].2)
theorem EReads.below {w w' : World} {v : Value} {L : List En} (h : EReads w v L) (hb : Below w.heap.size w w') : EReads w' v L := by
  obtain ⟨a, cap, rfl, h1, h2, h3⟩ := h
  refine ⟨a, cap, rfl, h1, h2, ?_⟩
  rcases h3 with h3 | ⟨b, off, h4, h5, h6⟩
  · exact .inl h3
  · refine .inr ⟨b, off, h4, Nat.lt_of_lt_of_le h5 hb.size, fun j hj => ?_⟩
    obtain ⟨kv, g1, g2, g3⟩ := h6 j hj
    exact ⟨kv, fun i hi => (hb.cell (p := ⟨b, off + (7 * j + i), none⟩) h5).trans (g1 i hi), g2.below hb, g3⟩
set_option maxRecDepth 100000 in
theorem openEs {H : Type} {enc : TypeId × Value → H} {W : World} {base : Nat} {spare : Nat → Bool} {held : Bool} {cs : List Value} {x : DataW H × List MemPlace} {fuel : Nat}
    (hf : DataW.trod enc Try.prog W base spare held fuel 25 cs = some x) : ∃ v L, cs = [v] ∧ EReads W v L := by
  rcases Go.Deep.open_slice Try.underlying25 hf with ⟨hcs, _⟩ | ⟨x, len, cap, m, n, D, Pl, hcs, _, hl, hm, hz, _, hcell⟩
  · subst hcs
    exact ⟨_, [], rfl, none, 0, rfl, by simp, by simp, .inl rfl⟩
  · subst hcs
    have hzl : len ≤ m := by rw [hz]; split <;> omega
    have hce : Try.prog.cellsOf 59 = 7 := by kernel_rfl
    rw [hce] at hcell
    have hall : ∀ j, ∃ (y : Ev), j < len → (∀ i (hi : i < 7), W.cell? (x.add (7 * j + i)) = some ((c7 y)[i]'hi)) ∧ Reads W y.kv y.k ∧ AgOk y.a := by
      intro j
      by_cases hj : j < len
      · obtain ⟨cs', hc1, hc2⟩ := hcell j (by omega)
        obtain ⟨_, hl7, hq⟩ := World.cells?_some hc1
        obtain ⟨c0, c1, c2, c3, c4, c5, c6, rfl⟩ := seven_of hl7
        obtain ⟨kv, k, a, e, hr, ha⟩ := openE' hc2
        refine ⟨⟨kv, k, a⟩, fun _ => ⟨fun i hi => ?_, hr, ha⟩⟩
        have h1 := hq i hi
        rw [e, List.getElem?_eq_getElem (show i < (c7 ⟨kv, k, a⟩).length from hi)] at h1
        have ea : (x.add (j * 7)).add i = x.add (7 * j + i) := by
          obtain ⟨xb, xo, xs⟩ := x
          by_cases h1 : j = 0
          · subst h1; simp [Addr.add]
          · have h2 : j * 7 ≠ 0 := by omega
            have h3 : 7 * j + i ≠ 0 := by omega
            by_cases h4 : i = 0
            · subst h4
              have h5 : j * 7 = 7 * j + 0 := by omega
              rw [h5]
              simp [Addr.add]
            · have h5 : xo + j * 7 + i = xo + (7 * j + i) := by omega
              unfold Addr.add
              rw [if_neg h2, if_neg h4, if_neg h3]
              simp only [h5]
        rw [ea] at h1
        exact h1
      · exact ⟨⟨.bool false, [], agZ⟩, fun h => absurd h hj⟩
    obtain ⟨ys, hys⟩ := Classical.axiomOfChoice hall
    rcases Nat.eq_zero_or_pos len with h0 | h0
    · subst h0
      exact ⟨_, [], rfl, _, cap, rfl, by simp, hm, .inl rfl⟩
    · have k0 := (hys 0 h0).1 0 (by decide)
      have e0 : x.add (7 * 0 + 0) = x := by simp [Addr.add]
      rw [e0] at k0
      obtain ⟨hb, hs⟩ := cell_block k0
      obtain ⟨b, off, spot⟩ := x
      simp only at hb hs
      subst hs
      refine ⟨_, (List.range len).map fun j => evE (ys j), rfl, _, cap, by simp, by simpa using hl, hm, .inr ⟨b, off, rfl, hb, fun j hj => ?_⟩⟩
      simp at hj
      obtain ⟨g1, g2, g3⟩ := hys j hj
      have ej : ((List.range len).map fun j => evE (ys j))[j]'(by simpa using hj) = evE (ys j) := by simp
      rw [ej]
      refine ⟨(ys j).kv, fun i hi => ?_, g2, g3.cn⟩
      have ea : (⟨b, off, none⟩ : Addr).add (7 * j + i) = ⟨b, off + (7 * j + i), none⟩ := by simp [Addr.add]
      have := g1 i hi
      rw [ea] at this
      exact this
theorem EReads.form {w : World} {v : Value} {L : List En} (h : EReads w v L) : ∃ a cap, v = .slice a L.length cap ∧ L.length ≤ cap ∧ cap ≤ maxLen := by
  obtain ⟨a, cap, rfl, h1, h2, _⟩ := h
  exact ⟨a, cap, rfl, h1, h2⟩
theorem EReads.ok {w : World} {v : Value} {L : List En} (h : EReads w v L) : ∀ x ∈ L, CnOk x.2 := by
  obtain ⟨a, cap, rfl, h1, h2, h3⟩ := h
  intro x hx
  rcases h3 with rfl | ⟨b, off, _, _, h6⟩
  · cases hx
  · obtain ⟨j, hj, rfl⟩ := List.getElem_of_mem hx
    obtain ⟨_, _, _, h⟩ := h6 j hj
    exact h
theorem EOwn.reads {w : World} {base : Nat} {v : Value} {xs : List Ev} (h : EOwn w base v xs) (hk : ∀ x ∈ xs, CnOk x.a) : EReads w v (xs.map evE) := by
  obtain ⟨a, cap, rfl, h1, h2, h3⟩ := h.at
  refine ⟨a, cap, by simp, by simpa using h1, h2, ?_⟩
  rcases Nat.eq_zero_or_pos xs.length with h0 | h0
  · exact .inl (by rw [List.length_eq_zero_iff.1 h0]; rfl)
  · obtain ⟨g, rfl, _, h5, h6⟩ := h3 h0
    refine .inr ⟨g, 0, rfl, h5, fun j hj => ?_⟩
    simp at hj
    have e : (xs.map evE)[j]'(by simpa using hj) = evE xs[j] := by simp
    rw [e]
    refine ⟨xs[j].kv, fun i hi => ?_, (h.2 _ (List.getElem_mem hj)).reads, hk _ (List.getElem_mem hj)⟩
    rw [show 0 + (7 * j + i) = 7 * j + i by omega]
    exact (h6 j hj i hi).1
/-- A slice reads these rows. -/
def RReads (w : World) (v : Value) (rs : List (List En)) : Prop :=
  ∃ a cap, v = .slice a rs.length cap ∧ rs.length ≤ cap ∧ cap ≤ maxLen ∧ (rs = [] ∨ ∃ b off, a = some ⟨b, off, none⟩ ∧ b < w.heap.size ∧ ∀ j (hj : j < rs.length), ∃ ev, w.cell? ⟨b, off + j, none⟩ = some ev ∧ EReads w ev rs[j])
theorem RReads.below {w w' : World} {v : Value} {rs : List (List En)} (h : RReads w v rs) (hb : Below w.heap.size w w') : RReads w' v rs := by
  obtain ⟨a, cap, rfl, h1, h2, h3⟩ := h
  refine ⟨a, cap, rfl, h1, h2, ?_⟩
  rcases h3 with h3 | ⟨b, off, h4, h5, h6⟩
  · exact .inl h3
  · refine .inr ⟨b, off, h4, Nat.lt_of_lt_of_le h5 hb.size, fun j hj => ?_⟩
    obtain ⟨ev, g1, g2⟩ := h6 j hj
    exact ⟨ev, (hb.cell (p := ⟨b, off + j, none⟩) h5).trans g1, g2.below hb⟩
set_option maxRecDepth 100000 in
theorem openRR {H : Type} {enc : TypeId × Value → H} {W : World} {r : Reach} {b0 base : Nat} {spare : Nat → Bool} {held : Bool} {v : Value} {d : DataW H} {p : List MemPlace}
    (hv : Value.okWide Try.prog W r b0 22 v) (h : DataW.Trod enc Try.prog W base spare held 22 v d p) : ∃ rs : List (List En), RReads W v rs := by
  obtain ⟨a, len, cap, rfl⟩ := okWide_slice Try.underlying22 hv
  obtain ⟨fuel, hf⟩ := h
  rcases Go.Deep.open_slice Try.underlying22 hf with ⟨hcs, _⟩ | ⟨x, l, c, m, n, D, Pl, hcs, _, hl, hm, hz, _, hcell⟩
  · simp [Value.cells] at hcs
    obtain ⟨rfl, rfl, rfl⟩ := hcs
    exact ⟨[], none, 0, rfl, by simp, by simp, .inl rfl⟩
  · simp [Value.cells] at hcs
    obtain ⟨rfl, rfl, rfl⟩ := hcs
    have hzl : len ≤ m := by rw [hz]; split <;> omega
    have hce : Try.prog.cellsOf 25 = 1 := by kernel_rfl
    rw [hce] at hcell
    have hall : ∀ j, ∃ (y : Value × List En), j < len → W.cell? (x.add j) = some y.1 ∧ EReads W y.1 y.2 := by
      intro j
      by_cases hj : j < len
      · obtain ⟨cs', hc1, hc2⟩ := hcell j (by omega)
        obtain ⟨_, hl1, hq⟩ := World.cells?_some hc1
        obtain ⟨ev, L, rfl, hr⟩ := openEs hc2
        have h1 := hq 0 (by decide)
        have ea : (x.add (j * 1)).add 0 = x.add j := by simp [Addr.add]
        rw [ea] at h1
        exact ⟨(ev, L), fun _ => ⟨h1, hr⟩⟩
      · exact ⟨(.bool false, []), fun h => absurd h hj⟩
    obtain ⟨ys, hys⟩ := Classical.axiomOfChoice hall
    rcases Nat.eq_zero_or_pos len with h0 | h0
    · subst h0
      exact ⟨[], _, cap, rfl, by simp, hm, .inl rfl⟩
    · have k0 := (hys 0 h0).1
      have e0 : x.add 0 = x := by simp [Addr.add]
      rw [e0] at k0
      obtain ⟨hb, hs⟩ := cell_block k0
      obtain ⟨b, off, spot⟩ := x
      simp only at hb hs
      subst hs
      refine ⟨(List.range len).map fun j => (ys j).2, _, cap, by simp, by simpa using hl, hm, .inr ⟨b, off, rfl, hb, fun j hj => ?_⟩⟩
      simp at hj
      obtain ⟨g1, g2⟩ := hys j hj
      have ej : ((List.range len).map fun j => (ys j).2)[j]'(by simpa using hj) = (ys j).2 := by simp
      rw [ej]
      have ea : (⟨b, off, none⟩ : Addr).add j = ⟨b, off + j, none⟩ := by simp [Addr.add]
      rw [ea] at g1
      exact ⟨_, g1, g2⟩
end Go.Proofs.Ytbadjigfcncfcaa

/- The contracts of bytes.Compare and bytes.Equal; the order of bytes. -/
namespace Go.Proofs.Ytbadjigfcncfcaa
open Go.RowKit

theorem run_loadBytes (w : World) : ∀ (l : List UInt8) (b off : Nat) (acc : ByteArray), (∀ j (h : j < l.length), w.cell? ⟨b, off + j, none⟩ = some (bc l[j])) →
    (Extern.Bytes.loadBytes ⟨b, off, none⟩ l.length acc).run Try.prog w = .ok ⟨acc.data ++ l.toArray⟩ w := by
  intro l
  induction l with
  | nil => intro b off acc _; simp [Extern.Bytes.loadBytes, Sem.run_pure]
  | cons x l ih =>
    intro b off acc h
    have h0 := h 0 (by simp)
    simp only [Nat.add_zero, List.getElem_cons_zero] at h0
    have e1 : (⟨b, off, none⟩ : Addr).add 1 = ⟨b, off + 1, none⟩ := by simp [Addr.add]
    have := ih b (off + 1) (acc.push x) (fun j hj => by
      have := h (j + 1) (by simpa using hj)
      simpa [Nat.add_assoc, Nat.add_comm 1 j] using this)
    have e2 : ((x.toNat : Int).toNat).toUInt8 = x := by simp
    unfold bc at h0
    simp only [List.length_cons, Extern.Bytes.loadBytes, Sem.run_bind, run_load, h0, Result.andThen, e1, e2, this]
    congr 1
    simp [ByteArray.push]
theorem run_bytesOf {w : World} {v : Value} {l : List UInt8} (h : Reads w v l) : (Extern.Bytes.bytesOf v).run Try.prog w = .ok ⟨l.toArray⟩ w := by
  rcases h with ⟨rfl, a, cap, rfl, _⟩ | ⟨b, off, cap, rfl, h2, h3, h4, h5, h6⟩
  · cases a with
    | none => simp [Extern.Bytes.bytesOf, Sem.run_pure]; rfl
    | some a => simp [Extern.Bytes.bytesOf, Extern.Bytes.loadBytes, Sem.run_pure]; rfl
  · have := run_loadBytes w l b off ByteArray.empty h6
    simp only [Extern.Bytes.bytesOf]
    rw [this]; simp
theorem run_cmp {w : World} {va vb : Value} {a b : List UInt8} (ha : Reads w va a) (hb : Reads w vb b) : (Extern.BytealgCompare.compare #[va, vb]).run Try.prog w = .ok (.int .i64 (Lib.compareBytes a b)) w := by
  change Sem.run Try.prog (do pure (goInt (Extern.BytealgCompare.cmp (← Extern.Bytes.bytesOf va) (← Extern.Bytes.bytesOf vb)))) w = _
  simp only [Sem.run_bind, run_bytesOf ha, run_bytesOf hb, Sem.run_pure, Result.andThen]
  rw [Lib.cmp_eq]
  rfl
theorem cmp_any (va vb : Value) (a b : List UInt8) (w : World) (ha : Reads w va a) (hb : Reads w vb b) :
    Calls Try.prog 49 #[va, vb] w fun e w' => e = .returned (.int .i64 (Lib.compareBytes a b)) ∧ w' = w := by
  have hr := run_cmp ha hb
  obtain ⟨a1, c1, rfl, _⟩ := ha.form
  obtain ⟨a2, c2, rfl, _⟩ := hb.form
  go_enter Try.func49, Try.ntmps49
  go_wp2_with (rw [run_callFunc_extern Try.func67 (by kernel_rfl) (by kernel_rfl) (by kernel_rfl) (e := Extern.BytealgCompare.compare) (by kernel_rfl), hr]; simp only [Result.andThen]; rw [Oper.upon_value])
  go_ret
  exact ⟨rfl, rfl⟩
theorem equal_any (va vb : Value) (a b : List UInt8) (w : World) (ha : Reads w va a) (hb : Reads w vb b) :
    Calls Try.prog 25 #[va, vb] w fun e w' => e = .returned (.bool (decide (a = b))) ∧ w' = w := by
  have h1 := reads_text ha
  have h2 := reads_text hb
  obtain ⟨a1, c1, rfl, _⟩ := ha.form
  obtain ⟨a2, c2, rfl, _⟩ := hb.form
  go_enter Try.func25, Try.ntmps25
  go_wp2_with fail
  go_ret
  exact ⟨congrArg (fun x => Ending.returned (Value.bool x)) (by rw [Bool.eq_iff_iff]; simp), rfl⟩
end Go.Proofs.Ytbadjigfcncfcaa

/- The contract of merge's order. -/
namespace Go.Proofs.Ytbadjigfcncfcaa
open Go.RowKit

def cmpI (a b : Int) : Int := if a < b then -1 else if b < a then 1 else 0
theorem isNaN_any (a : Int) (w : World) : Calls Try.prog 89 #[.int .i64 a] w fun e w' => e = .returned (.bool false) ∧ w' = w := by
  go_enter Try.func89, Try.ntmps89
  go_wp2_with fail
  go_ret
  exact ⟨by simp, rfl⟩
theorem cmpi_any (a b : Int) (w : World) : Calls Try.prog 80 #[.int .i64 a, .int .i64 b] w fun e w' => e = .returned (.int .i64 (cmpI a b)) ∧ w' = w := by
  go_enter Try.func80, Try.ntmps80
  go_wp2_with fail
  refine (isNaN_any _ _).mono ?_
  rintro e w1 ⟨rfl, hw1⟩
  subst w1
  go_wp2_with fail
  refine (isNaN_any _ _).mono ?_
  rintro e w1 ⟨rfl, hw1⟩
  subst w1
  by_cases h1 : a < b
  · have HZ : Hid (cmpI a b = -1) := by unfold Hid cmpI; rw [if_pos h1]
    go_wp2_with fail
    go_ret
    exact ⟨by rw [HZ.out]; rfl, rfl⟩
  · by_cases h2 : b < a
    · have HZ : Hid (cmpI a b = 1) := by unfold Hid cmpI; rw [if_neg h1, if_pos h2]
      go_wp2_with fail
      go_ret
      exact ⟨by rw [HZ.out]; rfl, rfl⟩
    · have HZ : Hid (cmpI a b = 0) := by unfold Hid cmpI; rw [if_neg h1, if_neg h2]
      go_wp2_with fail
      go_ret
      exact ⟨by rw [HZ.out]; rfl, rfl⟩
def orF (x y : Int) : Int := if x = 0 then y else x
set_option maxHeartbeats 1000000 in
theorem or_any (x y : Int) (g : Nat) (w : World) (c0 : w.cell? ⟨g, 0, none⟩ = some (.int .i64 x)) (c1 : w.cell? ⟨g, 1, none⟩ = some (.int .i64 y)) :
    Calls Try.prog 77 #[.slice (some ⟨g, 0, none⟩) 2 2] w fun e w' => e = .returned (.int .i64 (orF x y)) ∧ w' = w := by
  go_enter Try.func77, Try.ntmps77
  go_wp2_with fail
  go_loopw [8] (fun i wr => Hid (wr = w) ∧ ∃ k : Nat, k ≤ 2 ∧ i = .int .i64 (k : Int) ∧ (1 ≤ k → x = 0) ∧ (2 ≤ k → y = 0)) (fun i _ => 2 - (intOf i).toNat)
  case atStart => exact ⟨rfl, 0, by omega, rfl, fun h => by omega, fun h => by omega⟩
  case round =>
    obtain ⟨HW, k, hk, rfl, hx, hy⟩ := hrel
    obtain rfl := HW.out
    clear HW
    rcases Nat.lt_or_ge k 2 with hk2 | hk2
    · rcases Nat.eq_zero_or_pos k with rfl | hk0
      · clear hx hy
        by_cases hx0 : x = 0
        · have hxb : (x == 0) = true := by simp [hx0]
          have HX : Hid (x = 0) := hx0
          clear hx0
          go_wp2_with fail
          go_roundw
          case rel => exact ⟨trivial, 1, by omega, by go_num, fun _ => HX.out, fun h => by omega⟩
          case measure => simp [intOf]
        · have hxb : (x == 0) = false := by simp [hx0]
          have HZ : Hid (orF x y = x) := by unfold Hid orF; rw [if_neg hx0]
          clear hx0
          go_wp2_with fail
          go_ret
          exact ⟨by rw [HZ.out]; rfl, rfl⟩
      · obtain rfl : k = 1 := by omega
        have HX : Hid (x = 0) := hx (by omega)
        clear hx hy
        by_cases hy0 : y = 0
        · have hyb : (y == 0) = true := by simp [hy0]
          have HY : Hid (y = 0) := hy0
          clear hy0
          go_wp2_with fail
          go_roundw
          case rel => exact ⟨trivial, 2, by omega, by go_num, fun _ => HX.out, fun _ => HY.out⟩
          case measure => simp [intOf]
        · have hyb : (y == 0) = false := by simp [hy0]
          have HZ : Hid (orF x y = y) := by unfold Hid orF; rw [if_pos HX.out]
          clear hy0
          go_wp2_with fail
          go_ret
          exact ⟨by rw [HZ.out]; rfl, rfl⟩
    · obtain rfl : k = 2 := by omega
      have HX : Hid (x = 0) := hx (by omega)
      have HY : Hid (y = 0) := hy (by omega)
      have HZ : Hid (orF x y = 0) := by unfold Hid orF; rw [if_pos HX.out, HY.out]
      clear hx hy
      go_wp2_with fail
      go_ret
      exact ⟨by rw [HZ.out]; rfl, rfl⟩
/-- Which of two parts is ahead. -/
def ordF (ka : Ks) (ra : Int) (kb : Ks) (rb : Int) : Int := orF (Lib.compareBytes ka kb) (cmpI ra rb)
theorem ordF_lt {ka kb : Ks} {m n : Nat} : ordF ka m kb n < 0 ↔ ltT (ka, m) (kb, n) := by
  unfold ordF orF ltT ltK cmpI
  rcases cmp_three ka kb with h | h | h
  · rw [h]; simp
  · rw [h]
    have := cmp_zero h
    subst this
    simp only [true_and]
    by_cases h1 : m < n
    · have : (m : Int) < n := by omega
      simp [h1]
    · by_cases h2 : n < m
      · have : (n : Int) < m := by omega
        simp [h1, h2]
      · simp [h1, h2]
  · rw [h]
    simp only [show ((1 : Int) = 0) = False by simp, if_false]
    constructor
    · intro h; omega
    · rintro (h2 | ⟨rfl, _⟩)
      · omega
      · rw [cmp_refl] at h; omega
set_option maxRecDepth 100000 in
set_option maxHeartbeats 2000000 in
theorem order_any (ga oa na ca gb ob nb cb : Nat) (kva kvb : Value) (ka kb : Ks) (ra rb : Int) (hna : 0 < na) (hnb : 0 < nb) (w : World)
    (xa : w.cell? ⟨ga, oa, none⟩ = some kva) (xb : w.cell? ⟨gb, ob, none⟩ = some kvb) (hra : Reads w kva ka) (hrb : Reads w kvb kb) :
    Calls Try.prog 66 #[.agg #[.slice (some ⟨ga, oa, none⟩) na ca, .int .i64 ra], .agg #[.slice (some ⟨gb, ob, none⟩) nb cb, .int .i64 rb]] w fun e w' => e = .returned (.int .i64 (ordF ka ra kb rb)) ∧ Below w.heap.size w w' := by
  obtain ⟨ka1, ka2, rfl, _⟩ := hra.form
  obtain ⟨kb1, kb2, rfl, _⟩ := hrb.form
  have HRA : Hid (Reads w (.slice ka1 ka.length ka2) ka) := hra
  have HRB : Hid (Reads w (.slice kb1 kb.length kb2) kb) := hrb
  have hba := (cell_block xa).1
  have hbb := (cell_block xb).1
  simp only at hba hbb
  have HA : Hid (w.cell? ⟨ga, oa, none⟩ = some (.slice ka1 ka.length ka2)) := xa
  have HB : Hid (w.cell? ⟨gb, ob, none⟩ = some (.slice kb1 kb.length kb2)) := xb
  have HE : Hid (orF (Lib.compareBytes ka kb) (cmpI ra rb) = ordF ka ra kb rb) := rfl
  clear hra hrb xa xb
  go_enter Try.func66, Try.ntmps66
  go_wp2_with fail
  have H0 : Hid (Below w.heap.size w ((w.alloc (.cells #[.slice (some ⟨ga, oa, none⟩) na ca, .int .i64 ra] 104)).alloc (.cells #[.slice (some ⟨gb, ob, none⟩) nb cb, .int .i64 rb] 104))) := ((Below.refl _ _).alloc (Nat.le_refl _) _).alloc (by simp) _
  have y0 := (H0.out.cell (p := ⟨ga, oa, none⟩) hba).trans HA.out
  have y1 := (H0.out.cell (p := ⟨gb, ob, none⟩) hbb).trans HB.out
  refine wp_region_noPanic ?_
  refine wp_region_held_drew (S := (fun w' => w'.cell? ⟨w.heap.size, 0, none⟩ = some (.slice (some ⟨ga, oa, none⟩) na ca) ∧ w'.cell? ⟨w.heap.size, 1, none⟩ = some (.int .i64 ra) ∧ w'.cell? ⟨w.heap.size + 1, 0, none⟩ = some (.slice (some ⟨gb, ob, none⟩) nb cb) ∧ w'.cell? ⟨w.heap.size + 1, 1, none⟩ = some (.int .i64 rb) ∧ w'.cell? ⟨ga, oa, none⟩ = some (.slice ka1 ka.length ka2) ∧ w'.cell? ⟨gb, ob, none⟩ = some (.slice kb1 kb.length kb2) ∧ Below w.heap.size w w')) (by kernel_rfl) ?_ (fun hHeld => ?_)
  · exact ⟨by simp [go_sem, World.cell?_alloc_past], by simp [go_sem, World.cell?_alloc_past], by simp [go_sem], by simp [go_sem], y0, y1, H0.out.drew⟩
  clear y0 y1
  refine wpAnyH_take (i := 0) (v := .pointer (some ⟨w.heap.size, 0, none⟩)) rfl (by kernel_rfl) (by kernel_rfl) (by kernel_rfl) (fun _ _ _ h => h) (Or.inl ⟨by rfl, ?_⟩) (by assumption) ?_
  · (intro w1 hSw; (try dsimp only at hSw); go_simp)
  simp only [List.getElem_toArray, List.getElem_cons_zero, Act.put, List.setIfInBounds_toArray, List.set_cons_zero, List.set_cons_succ]
  refine wpAnyH_take (i := 1) (v := .slice (some ⟨ga, oa, none⟩) na ca) rfl (by kernel_rfl) (by kernel_rfl) (by kernel_rfl) (fun _ _ _ h => h) (Or.inl ⟨by rfl, ?_⟩) (by assumption) ?_
  · (intro w1 hSw; (try dsimp only at hSw); go_simp)
  simp only [List.getElem_toArray, List.getElem_cons_succ, List.getElem_cons_zero, Act.put, List.setIfInBounds_toArray, List.set_cons_zero, List.set_cons_succ]
  refine wpAnyH_take (i := 2) (v := .pointer (some ⟨ga, oa, none⟩)) rfl (by kernel_rfl) (by kernel_rfl) (by kernel_rfl) (fun _ _ _ h => h) (Or.inl ⟨by rfl, ?_⟩) (by assumption) ?_
  · (intro w1 hSw; (try dsimp only at hSw); go_simp)
  simp only [List.getElem_toArray, List.getElem_cons_succ, List.getElem_cons_zero, Act.put, List.setIfInBounds_toArray, List.set_cons_zero, List.set_cons_succ]
  refine wpAnyH_take (i := 3) (v := .pointer (some ⟨ga, oa, none⟩)) rfl (by kernel_rfl) (by kernel_rfl) (by kernel_rfl) (fun _ _ _ h => h) (Or.inl ⟨by rfl, ?_⟩) (by assumption) ?_
  · (intro w1 hSw; (try dsimp only at hSw); go_simp)
  simp only [List.getElem_toArray, List.getElem_cons_succ, List.getElem_cons_zero, Act.put, List.setIfInBounds_toArray, List.set_cons_zero, List.set_cons_succ]
  refine wpAnyH_take (i := 4) (v := .slice ka1 ka.length ka2) rfl (by kernel_rfl) (by kernel_rfl) (by kernel_rfl) (fun _ _ _ h => h) (Or.inl ⟨by rfl, ?_⟩) (by assumption) ?_
  · (intro w1 hSw; (try dsimp only at hSw); go_simp)
  simp only [List.getElem_toArray, List.getElem_cons_succ, List.getElem_cons_zero, Act.put, List.setIfInBounds_toArray, List.set_cons_zero, List.set_cons_succ]
  refine wpAnyH_take (i := 5) (v := .pointer (some ⟨w.heap.size + 1, 0, none⟩)) rfl (by kernel_rfl) (by kernel_rfl) (by kernel_rfl) (fun _ _ _ h => h) (Or.inl ⟨by rfl, ?_⟩) (by assumption) ?_
  · (intro w1 hSw; (try dsimp only at hSw); go_simp)
  simp only [List.getElem_toArray, List.getElem_cons_succ, List.getElem_cons_zero, Act.put, List.setIfInBounds_toArray, List.set_cons_zero, List.set_cons_succ]
  refine wpAnyH_take (i := 6) (v := .slice (some ⟨gb, ob, none⟩) nb cb) rfl (by kernel_rfl) (by kernel_rfl) (by kernel_rfl) (fun _ _ _ h => h) (Or.inl ⟨by rfl, ?_⟩) (by assumption) ?_
  · (intro w1 hSw; (try dsimp only at hSw); go_simp)
  simp only [List.getElem_toArray, List.getElem_cons_succ, List.getElem_cons_zero, Act.put, List.setIfInBounds_toArray, List.set_cons_zero, List.set_cons_succ]
  refine wpAnyH_take (i := 7) (v := .pointer (some ⟨gb, ob, none⟩)) rfl (by kernel_rfl) (by kernel_rfl) (by kernel_rfl) (fun _ _ _ h => h) (Or.inl ⟨by rfl, ?_⟩) (by assumption) ?_
  · (intro w1 hSw; (try dsimp only at hSw); go_simp)
  simp only [List.getElem_toArray, List.getElem_cons_succ, List.getElem_cons_zero, Act.put, List.setIfInBounds_toArray, List.set_cons_zero, List.set_cons_succ]
  refine wpAnyH_take (i := 8) (v := .pointer (some ⟨gb, ob, none⟩)) rfl (by kernel_rfl) (by kernel_rfl) (by kernel_rfl) (fun _ _ _ h => h) (Or.inl ⟨by rfl, ?_⟩) (by assumption) ?_
  · (intro w1 hSw; (try dsimp only at hSw); go_simp)
  simp only [List.getElem_toArray, List.getElem_cons_succ, List.getElem_cons_zero, Act.put, List.setIfInBounds_toArray, List.set_cons_zero, List.set_cons_succ]
  refine wpAnyH_take (i := 9) (v := .slice kb1 kb.length kb2) rfl (by kernel_rfl) (by kernel_rfl) (by kernel_rfl) (fun _ _ _ h => h) (Or.inl ⟨by rfl, ?_⟩) (by assumption) ?_
  · (intro w1 hSw; (try dsimp only at hSw); go_simp)
  simp only [List.getElem_toArray, List.getElem_cons_succ, List.getElem_cons_zero, Act.put, List.setIfInBounds_toArray, List.set_cons_zero, List.set_cons_succ]
  refine wpAnyH_take (i := 11) (v := .pointer (some ⟨w.heap.size, 1, none⟩)) rfl (by kernel_rfl) (by kernel_rfl) (by kernel_rfl) (fun _ _ _ h => h) (Or.inl ⟨by rfl, ?_⟩) (by assumption) ?_
  · (intro w1 hSw; (try dsimp only at hSw); go_simp)
  simp only [List.getElem_toArray, List.getElem_cons_succ, List.getElem_cons_zero, Act.put, List.setIfInBounds_toArray, List.set_cons_zero, List.set_cons_succ]
  refine wpAnyH_take (i := 12) (v := .int .i64 ra) rfl (by kernel_rfl) (by kernel_rfl) (by kernel_rfl) (fun _ _ _ h => h) (Or.inl ⟨by rfl, ?_⟩) (by assumption) ?_
  · (intro w1 hSw; (try dsimp only at hSw); go_simp)
  simp only [List.getElem_toArray, List.getElem_cons_succ, List.getElem_cons_zero, Act.put, List.setIfInBounds_toArray, List.set_cons_zero, List.set_cons_succ]
  refine wpAnyH_take (i := 13) (v := .pointer (some ⟨w.heap.size + 1, 1, none⟩)) rfl (by kernel_rfl) (by kernel_rfl) (by kernel_rfl) (fun _ _ _ h => h) (Or.inl ⟨by rfl, ?_⟩) (by assumption) ?_
  · (intro w1 hSw; (try dsimp only at hSw); go_simp)
  simp only [List.getElem_toArray, List.getElem_cons_succ, List.getElem_cons_zero, Act.put, List.setIfInBounds_toArray, List.set_cons_zero, List.set_cons_succ]
  refine wpAnyH_take (i := 14) (v := .int .i64 rb) rfl (by kernel_rfl) (by kernel_rfl) (by kernel_rfl) (fun _ _ _ h => h) (Or.inl ⟨by rfl, ?_⟩) (by assumption) ?_
  · (intro w1 hSw; (try dsimp only at hSw); go_simp)
  simp only [List.getElem_toArray, List.getElem_cons_succ, List.getElem_cons_zero, Act.put, List.setIfInBounds_toArray, List.set_cons_zero, List.set_cons_succ]
  refine wpAnyH_ready (rs := [10]) (by kernel_rfl) (by simp) ?_
  refine AllReadyH.cons (o := _) rfl (fun K hK => ?_) AllReadyH.nil
  go_simp
  refine (cmp_any _ _ ka kb _ (HRA.out.below hHeld.2.2.2.2.2.2) (HRB.out.below hHeld.2.2.2.2.2.2)).mono ?_
  rintro e w' ⟨rfl, hw'⟩
  subst w'
  go_simp
  refine hK.out _ _ ?_ (fun hHeld => ?_)
  · exact hHeld
  clear hK K
  refine wpAnyH_ready (rs := [15]) (by kernel_rfl) (by simp) ?_
  refine AllReadyH.cons (o := _) rfl (fun K hK => ?_) AllReadyH.nil
  go_simp
  refine (cmpi_any ra rb _).mono ?_
  rintro e w' ⟨rfl, hw'⟩
  subst w'
  go_simp
  refine hK.out _ _ ?_ (fun hHeld => ?_)
  · exact hHeld
  clear hK K
  refine wpAnyH_ready (rs := [16]) (by kernel_rfl) (by simp) ?_
  refine AllReadyH.cons (o := _) rfl (fun K hK => ?_) AllReadyH.nil
  go_simp
  refine hK.out _ _ ?_ (fun hHeld => ?_)
  · exact ⟨(World.cell?_alloc_lt _ _ _ (World.block_lt_of_cell? _ _ hHeld.1)).trans hHeld.1, (World.cell?_alloc_lt _ _ _ (World.block_lt_of_cell? _ _ hHeld.2.1)).trans hHeld.2.1, (World.cell?_alloc_lt _ _ _ (World.block_lt_of_cell? _ _ hHeld.2.2.1)).trans hHeld.2.2.1, (World.cell?_alloc_lt _ _ _ (World.block_lt_of_cell? _ _ hHeld.2.2.2.1)).trans hHeld.2.2.2.1, (World.cell?_alloc_lt _ _ _ (World.block_lt_of_cell? _ _ hHeld.2.2.2.2.1)).trans hHeld.2.2.2.2.1, (World.cell?_alloc_lt _ _ _ (World.block_lt_of_cell? _ _ hHeld.2.2.2.2.2.1)).trans hHeld.2.2.2.2.2.1, hHeld.2.2.2.2.2.2.alloc (by simp; omega) _⟩
  clear hK K
  refine wpAnyH_ready (rs := [17]) (by kernel_rfl) (by simp) ?_
  refine AllReadyH.cons (o := _) rfl (fun K hK => ?_) AllReadyH.nil
  go_simp
  refine (or_any (Lib.compareBytes ka kb) (cmpI ra rb) _ _ (by simp [go_sem]) (by simp [go_sem])).mono ?_
  rintro e w' ⟨rfl, hw'⟩
  subst w'
  rw [HE.out]
  go_simp
  refine hK.out _ _ ?_ (fun hHeld => ?_)
  · exact hHeld
  clear hK K
  refine wpAnyH_take (i := 18) (v := .int .i64 (ordF ka ra kb rb)) rfl (by kernel_rfl) (by kernel_rfl) (by kernel_rfl) (fun _ _ _ h => h) (Or.inl ⟨by rfl, ?_⟩) (by assumption) ?_
  · (intro w1 hSw; (try dsimp only at hSw); go_simp)
  simp only [List.getElem_toArray, List.getElem_cons_succ, List.getElem_cons_zero, Act.put, List.setIfInBounds_toArray, List.set_cons_zero, List.set_cons_succ]
  refine wpAnyH_done (by kernel_rfl) ?_ _
  refine NoPanic.normal ?_
  go_wp2_with fail
  go_ret
  exact ⟨rfl, hHeld.2.2.2.2.2.2⟩
end Go.Proofs.Ytbadjigfcncfcaa

/- A heap of rows in memory; which part is ahead. -/
namespace Go.Proofs.Ytbadjigfcncfcaa
open Go.RowKit

/-- What is left of a row, in memory: its array, where it begins there, its slice's capacity, its entries; its row's place. -/
structure Pt where
  g : Nat
  o : Nat
  cap : Nat
  xs : List Ev
  r : Nat
def ptZ : Pt := ⟨0, 0, 0, [], 0⟩
def lv (p : Pt) : Value := .slice (some ⟨p.g, p.o, none⟩) p.xs.length p.cap
def p2 (p : Pt) : List Value := [lv p, .int .i64 (p.r : Int)]
def paP (p : Pt) : Pa := (p.xs.map evE, p.r)
def lePt (p q : Pt) : Prop := ltP (paP p) (paP q)
structure PtOk (w : World) (lo hh : Nat) (p : Pt) : Prop where
  g1 : lo ≤ p.g
  g2 : p.g < hh
  n1 : 0 < p.xs.length
  n2 : p.xs.length ≤ p.cap
  n3 : p.cap ≤ maxLen
  ce : ∃ cur, w.heap[p.g]? = some (.cells cur 59) ∧ ∀ j (hj : j < p.xs.length) i (hi : i < 7), cur[p.o + (7 * j + i)]? = some ((c7 p.xs[j])[i]'hi)
  ky : ∀ x ∈ p.xs, Own w lo x.kv x.k
structure HM (w : World) (lo hh h : Nat) (P : List Pt) : Prop where
  h1 : lo ≤ h
  h2 : h < hh
  hd : ∃ v, w.heap[h]? = some (.cells #[v] 101) ∧ w.ownsRow lo 104 2 v P.length (P.flatMap p2) ∧ ∀ k, v.ownBlock = some k → k < hh
  pt : ∀ p ∈ P, PtOk w lo hh p
  nd : (P.map Pt.g).Nodup
  le : P.length ≤ 100000
/-- Blocks of cells stay. -/
def Kp (A B : World) : Prop := ∀ (k : Nat) (cs : Array Value) (t : TypeId) (fr : Nat × Nat), A.heap[k]? = some (Obj.cells cs t fr) → B.heap[k]? = some (Obj.cells cs t fr)
theorem Kp.of_below {A B : World} (h : Below A.heap.size A B) : Kp A B := fun k _ _ _ hk => (h.block k (Array.getElem?_eq_some_iff.1 hk).1).trans hk
theorem own_kp {A B : World} {base : Nat} {v : Value} {l : List UInt8} (h : Own A base v l) (hk : ∀ (k : Nat) (cs : Array Value) (fr : Nat × Nat), A.heap[k]? = some (Obj.cells cs 5 fr) → B.heap[k]? = some (Obj.cells cs 5 fr)) : Own B base v l := by
  obtain ⟨h1, h2⟩ := h
  refine ⟨h1, ?_⟩
  rcases h2 with h2 | ⟨g, cap, cur, hv, hg, hw, r⟩
  · exact .inl h2
  · exact .inr ⟨g, cap, cur, hv, hg, hk _ _ _ hw, r⟩
theorem row_kp {A B : World} {base n sz : Nat} {e : TypeId} {v : Value} {xs : List Value} (h : A.ownsRow base e sz v n xs) (hk : Kp A B) : B.ownsRow base e sz v n xs := by
  obtain ⟨h1, h2⟩ := h
  refine ⟨h1, ?_⟩
  rcases h2 with h2 | ⟨g, cap, cur, hv, hg, hw, r⟩
  · exact .inl h2
  · exact .inr ⟨g, cap, cur, hv, hg, hk _ _ _ _ hw, r⟩
theorem PtOk.kp {A B : World} {lo hh : Nat} {p : Pt} (h : PtOk A lo hh p) (hk : Kp A B) : PtOk B lo hh p := by
  obtain ⟨cur, h1, h2⟩ := h.ce
  exact ⟨h.g1, h.g2, h.n1, h.n2, h.n3, ⟨cur, hk _ _ _ _ h1, h2⟩, fun x hx => own_kp (h.ky x hx) (fun _ _ _ q => hk _ _ _ _ q)⟩
theorem HM.kp {A B : World} {lo hh h : Nat} {P : List Pt} (H : HM A lo hh h P) (hk : Kp A B) : HM B lo hh h P := by
  obtain ⟨v, h1, h2, h3⟩ := H.hd
  exact ⟨H.h1, H.h2, ⟨v, hk _ _ _ _ h1, row_kp h2 hk, h3⟩, fun p hp => (H.pt p hp).kp hk, H.nd, H.le⟩
theorem HM.below {A B : World} {lo hh h : Nat} {P : List Pt} (H : HM A lo hh h P) (hb : Below A.heap.size A B) : HM B lo hh h P := H.kp (Kp.of_below hb)
theorem flat2 : ∀ (P : List Pt) (j i : Nat) (hj : j < P.length), i < 2 → (P.flatMap p2)[2 * j + i]? = (p2 P[j])[i]?
  | [], j, i, hj, _ => by simp at hj
  | x :: xs, 0, i, _, hi => by
    rw [List.flatMap_cons, List.getElem?_append_left (by show _ < 2; omega)]; simp
  | x :: xs, j + 1, i, hj, hi => by
    rw [List.flatMap_cons, List.getElem?_append_right (by show 2 ≤ _; omega)]
    have : 2 * (j + 1) + i - (p2 x).length = 2 * j + i := by show 2 * (j + 1) + i - 2 = _; omega
    rw [this]
    exact flat2 xs j i (by simpa using hj) hi
/-- The heap's array. -/
theorem HM.arr {w : World} {lo hh h : Nat} {P : List Pt} (H : HM w lo hh h P) : ∃ a cap, w.heap[h]? = some (.cells #[.slice a P.length cap] 101) ∧ w.ownsRow lo 104 2 (.slice a P.length cap) P.length (P.flatMap p2) ∧ P.length ≤ cap ∧ cap ≤ maxLen ∧
    (0 < P.length → ∃ gp, a = some ⟨gp, 0, none⟩ ∧ lo ≤ gp ∧ gp < hh ∧ gp < w.heap.size ∧ ∀ j (hj : j < P.length), w.cell? ⟨gp, j * 2, none⟩ = some (lv P[j]) ∧ w.cell? ⟨gp, j * 2 + 1, none⟩ = some (.int .i64 (P[j].r : Int)) ∧ w.frozen? ⟨gp, j * 2, none⟩ = false ∧ w.frozen? ⟨gp, j * 2 + 1, none⟩ = false) := by
  obtain ⟨v, h1, h2, h3⟩ := H.hd
  have hlt := World.ownsRow.lt h2
  rcases h2.2 with ⟨q1, q2⟩ | ⟨g, cap, cur, hv, hg, hw, hc, hm, _⟩
  · refine ⟨none, 0, by rw [q2]; rw [q1] at h1; exact h1, by rw [q2]; rw [q1, q2] at h2; exact h2, by omega, by simp, fun h0 => by omega⟩
  · subst hv
    refine ⟨_, cap, h1, h2, hc, hm, fun _ => ⟨g, rfl, hg, h3 g rfl, (hlt g rfl).2, fun j hj => ⟨?_, ?_, World.ownsRow.frozenAt h2 _, World.ownsRow.frozenAt h2 _⟩⟩⟩
    · rw [World.ownsRow.cellAt h2 _ (by omega), show j * 2 = 2 * j + 0 by omega, flat2 P j 0 hj (by decide)]; rfl
    · rw [World.ownsRow.cellAt h2 _ (by omega), show j * 2 + 1 = 2 * j + 1 by omega, flat2 P j 1 hj (by decide)]; rfl
/-- A part's first entry. -/
theorem PtOk.first {w : World} {lo hh : Nat} {p : Pt} (h : PtOk w lo hh p) : ∃ x xs, p.xs = x :: xs ∧ p.g < w.heap.size ∧ (∀ i (hi : i < 7), w.cell? ⟨p.g, p.o + i, none⟩ = some ((c7 x)[i]'hi) ∧ w.frozen? ⟨p.g, p.o + i, none⟩ = false) ∧ Own w lo x.kv x.k := by
  have h1 := h.n1
  obtain ⟨cur, h2, h3⟩ := h.ce
  cases hx : p.xs with
  | nil => rw [hx] at h1; simp at h1
  | cons x xs =>
    refine ⟨x, xs, rfl, (Array.getElem?_eq_some_iff.1 h2).1, fun i hi => ⟨?_, by simp [World.frozen?, h2]⟩, h.ky x (by rw [hx]; exact List.mem_cons_self ..)⟩
    have := h3 0 h1 i hi
    simp only [hx, Nat.mul_zero, Nat.zero_add, List.getElem_cons_zero] at this
    rw [Go.Joins.cell_of_block h2 (p.o + i), this]
    congr 1
theorem hd_first {p : Pt} {x : Ev} {xs : List Ev} (h : p.xs = x :: xs) : hdT (paP p) = (x.k, p.r) := by unfold hdT paP; rw [h]; rfl
def AhPost (P : List Pt) (i j : Nat) (w : World) (e : Ending) (w' : World) : Prop := ∃ b : Bool, e = .returned (.bool b) ∧ (b = true ↔ i < P.length ∧ lePt (P.getD i ptZ) (P.getD j ptZ)) ∧ Below w.heap.size w w'
set_option maxRecDepth 100000 in
set_option maxHeartbeats 2000000 in
theorem ahead_any (lo hh h Bx : Nat) (P : List Pt) (i j : Nat) (w : World) (H : HM w lo hh h P) (hB : w.cell? ⟨Bx, 0, none⟩ = some (.pointer (some ⟨h, 0, none⟩))) (hj : i < P.length → j < P.length) :
    Calls Try.prog 65 #[.int .i64 (i : Int), .int .i64 (j : Int), .pointer (some ⟨Bx, 0, none⟩)] w (AhPost P i j w) := by
  obtain ⟨a, cap, e1, e2, e3, e4, e5⟩ := H.arr
  have hh0 : w.cell? ⟨h, 0, none⟩ = some (.slice a P.length cap) := by simp [World.cell?, e1]
  have hle := H.le
  unfold maxLen at e4
  by_cases hi : i < P.length
  · have hj := hj hi
    obtain ⟨gp, rfl, _, _, hgs, hcs⟩ := e5 (by omega)
    obtain ⟨x, xs, hx, hgx, hcx, hox⟩ := (H.pt _ (List.getElem_mem hi)).first
    obtain ⟨y, ys, hy, hgy, hcy, hoy⟩ := (H.pt _ (List.getElem_mem hj)).first
    have hnx := (H.pt _ (List.getElem_mem hi)).n1
    have hny := (H.pt _ (List.getElem_mem hj)).n1
    have HI : Hid (lePt (P.getD i ptZ) (P.getD j ptZ) ↔ ordF x.k (P[i].r : Int) y.k (P[j].r : Int) < 0) := by
      unfold Hid lePt ltP
      rw [getD_get _ hi, getD_get _ hj, hd_first hx, hd_first hy, ordF_lt]
    obtain ⟨p0, p1, _, _⟩ := hcs i hi
    obtain ⟨q0, q1, _, _⟩ := hcs j hj
    unfold lv at p0 q0
    generalize P[i] = p at *
    generalize P[j] = q at *
    have HX : Hid (w.cell? ⟨p.g, p.o, none⟩ = some x.kv) := (hcx 0 (by decide)).1
    have HY : Hid (w.cell? ⟨q.g, q.o, none⟩ = some y.kv) := (hcy 0 (by decide)).1
    have HOX : Hid (Reads w x.kv x.k) := hox.reads
    have HOY : Hid (Reads w y.kv y.k) := hoy.reads
    clear hcx hcy hox hoy hcs e5 e1 e2 H hx hy
    obtain ⟨pg, po, pc, pxs, pr⟩ := p
    obtain ⟨qg, qo, qc, qxs, qr⟩ := q
    simp only at *
    go_enter Try.func65, Try.ntmps65
    go_wp2_with fail
    refine wp_region_noPanic ?_
    refine wp_region_held_drew (S := (fun w' => w'.cell? ⟨Bx, 0, none⟩ = some (.pointer (some ⟨h, 0, none⟩)) ∧ w'.cell? ⟨h, 0, none⟩ = some (.slice (some ⟨gp, 0, none⟩) P.length cap) ∧ w'.cell? ⟨gp, i * 2, none⟩ = some (.slice (some ⟨pg, po, none⟩) pxs.length pc) ∧ w'.cell? ⟨gp, i * 2 + 1, none⟩ = some (.int .i64 (pr : Int)) ∧ w'.cell? ⟨gp, j * 2, none⟩ = some (.slice (some ⟨qg, qo, none⟩) qxs.length qc) ∧ w'.cell? ⟨gp, j * 2 + 1, none⟩ = some (.int .i64 (qr : Int)) ∧ Below w.heap.size w w')) (by kernel_rfl) ?_ (fun hHeld => ?_)
    · exact ⟨hB, hh0, p0, p1, q0, q1, (Below.refl _ _).drew⟩
    refine wpAnyH_take (i := 0) (v := .int .i64 (i : Int)) rfl (by kernel_rfl) (by kernel_rfl) (by kernel_rfl) (fun _ _ _ h => h) (Or.inl ⟨by rfl, ?_⟩) (by assumption) ?_
    · (intro w1 hSw; (try dsimp only at hSw); go_simp)
    simp only [List.getElem_toArray, List.getElem_cons_zero, Act.put, List.setIfInBounds_toArray, List.set_cons_zero, List.set_cons_succ]
    refine wpAnyH_take (i := 1) (v := .pointer (some ⟨h, 0, none⟩)) rfl (by kernel_rfl) (by kernel_rfl) (by kernel_rfl) (fun _ _ _ h => h) (Or.inl ⟨by rfl, ?_⟩) (by assumption) ?_
    · (intro w1 hSw; (try dsimp only at hSw); go_simp)
    simp only [List.getElem_toArray, List.getElem_cons_succ, List.getElem_cons_zero, Act.put, List.setIfInBounds_toArray, List.set_cons_zero, List.set_cons_succ]
    refine wpAnyH_take (i := 2) (v := .pointer (some ⟨h, 0, none⟩)) rfl (by kernel_rfl) (by kernel_rfl) (by kernel_rfl) (fun _ _ _ h => h) (Or.inl ⟨by rfl, ?_⟩) (by assumption) ?_
    · (intro w1 hSw; (try dsimp only at hSw); go_simp)
    simp only [List.getElem_toArray, List.getElem_cons_succ, List.getElem_cons_zero, Act.put, List.setIfInBounds_toArray, List.set_cons_zero, List.set_cons_succ]
    refine wpAnyH_take (i := 3) (v := .pointer (some ⟨h, 0, none⟩)) rfl (by kernel_rfl) (by kernel_rfl) (by kernel_rfl) (fun _ _ _ h => h) (Or.inl ⟨by rfl, ?_⟩) (by assumption) ?_
    · (intro w1 hSw; (try dsimp only at hSw); go_simp)
    simp only [List.getElem_toArray, List.getElem_cons_succ, List.getElem_cons_zero, Act.put, List.setIfInBounds_toArray, List.set_cons_zero, List.set_cons_succ]
    refine wpAnyH_take (i := 4) (v := .slice (some ⟨gp, 0, none⟩) P.length cap) rfl (by kernel_rfl) (by kernel_rfl) (by kernel_rfl) (fun _ _ _ h => h) (Or.inl ⟨by rfl, ?_⟩) (by assumption) ?_
    · (intro w1 hSw; (try dsimp only at hSw); go_simp)
    simp only [List.getElem_toArray, List.getElem_cons_succ, List.getElem_cons_zero, Act.put, List.setIfInBounds_toArray, List.set_cons_zero, List.set_cons_succ]
    refine wpAnyH_take (i := 5) (v := .int .i64 (P.length : Int)) rfl (by kernel_rfl) (by kernel_rfl) (by kernel_rfl) (fun _ _ _ h => h) (Or.inl ⟨by rfl, ?_⟩) (by assumption) ?_
    · (intro w1 hSw; (try dsimp only at hSw); go_simp)
    simp only [List.getElem_toArray, List.getElem_cons_succ, List.getElem_cons_zero, Act.put, List.setIfInBounds_toArray, List.set_cons_zero, List.set_cons_succ]
    refine wpAnyH_take (i := 6) (v := .bool true) rfl (by kernel_rfl) (by kernel_rfl) (by kernel_rfl) (fun _ _ _ h => h) (Or.inl ⟨by rfl, ?_⟩) (by assumption) ?_
    · (intro w1 hSw; (try dsimp only at hSw); go_simp)
    simp only [List.getElem_toArray, List.getElem_cons_succ, List.getElem_cons_zero, Act.put, List.setIfInBounds_toArray, List.set_cons_zero, List.set_cons_succ]
    refine wpAnyH_take (i := 7) (v := .bool true) rfl (by kernel_rfl) (by kernel_rfl) (by kernel_rfl) (fun _ _ _ h => h) (Or.inl ⟨by rfl, ?_⟩) (by assumption) ?_
    · (intro w1 hSw; (try dsimp only at hSw); go_simp)
    simp only [List.getElem_toArray, List.getElem_cons_succ, List.getElem_cons_zero, Act.put, List.setIfInBounds_toArray, List.set_cons_zero, List.set_cons_succ]
    refine wpAnyH_take (i := 8) (v := .pointer (some ⟨h, 0, none⟩)) rfl (by kernel_rfl) (by kernel_rfl) (by kernel_rfl) (fun _ _ _ h => h) (Or.inl ⟨by rfl, ?_⟩) (by assumption) ?_
    · (intro w1 hSw; (try dsimp only at hSw); go_simp)
    simp only [List.getElem_toArray, List.getElem_cons_succ, List.getElem_cons_zero, Act.put, List.setIfInBounds_toArray, List.set_cons_zero, List.set_cons_succ]
    refine wpAnyH_take (i := 9) (v := .pointer (some ⟨h, 0, none⟩)) rfl (by kernel_rfl) (by kernel_rfl) (by kernel_rfl) (fun _ _ _ h => h) (Or.inl ⟨by rfl, ?_⟩) (by assumption) ?_
    · (intro w1 hSw; (try dsimp only at hSw); go_simp)
    simp only [List.getElem_toArray, List.getElem_cons_succ, List.getElem_cons_zero, Act.put, List.setIfInBounds_toArray, List.set_cons_zero, List.set_cons_succ]
    refine wpAnyH_take (i := 10) (v := .pointer (some ⟨h, 0, none⟩)) rfl (by kernel_rfl) (by kernel_rfl) (by kernel_rfl) (fun _ _ _ h => h) (Or.inl ⟨by rfl, ?_⟩) (by assumption) ?_
    · (intro w1 hSw; (try dsimp only at hSw); go_simp)
    simp only [List.getElem_toArray, List.getElem_cons_succ, List.getElem_cons_zero, Act.put, List.setIfInBounds_toArray, List.set_cons_zero, List.set_cons_succ]
    refine wpAnyH_take (i := 11) (v := .slice (some ⟨gp, 0, none⟩) P.length cap) rfl (by kernel_rfl) (by kernel_rfl) (by kernel_rfl) (fun _ _ _ h => h) (Or.inl ⟨by rfl, ?_⟩) (by assumption) ?_
    · (intro w1 hSw; (try dsimp only at hSw); go_simp)
    simp only [List.getElem_toArray, List.getElem_cons_succ, List.getElem_cons_zero, Act.put, List.setIfInBounds_toArray, List.set_cons_zero, List.set_cons_succ]
    refine wpAnyH_take (i := 12) (v := .int .i64 (i : Int)) rfl (by kernel_rfl) (by kernel_rfl) (by kernel_rfl) (fun _ _ _ h => h) (Or.inl ⟨by rfl, ?_⟩) (by assumption) ?_
    · (intro w1 hSw; (try dsimp only at hSw); go_simp)
    simp only [List.getElem_toArray, List.getElem_cons_succ, List.getElem_cons_zero, Act.put, List.setIfInBounds_toArray, List.set_cons_zero, List.set_cons_succ]
    refine wpAnyH_take (i := 13) (v := .pointer (some ⟨gp, i * 2, none⟩)) rfl (by kernel_rfl) (by kernel_rfl) (by kernel_rfl) (fun _ _ _ h => h) (Or.inl ⟨by rfl, ?_⟩) (by assumption) ?_
    · (intro w1 hSw; (try dsimp only at hSw); go_simp)
    simp only [List.getElem_toArray, List.getElem_cons_succ, List.getElem_cons_zero, Act.put, List.setIfInBounds_toArray, List.set_cons_zero, List.set_cons_succ]
    refine wpAnyH_take (i := 14) (v := .agg #[.slice (some ⟨pg, po, none⟩) pxs.length pc, .int .i64 (pr : Int)]) rfl (by kernel_rfl) (by kernel_rfl) (by kernel_rfl) (fun _ _ _ h => h) (Or.inl ⟨by rfl, ?_⟩) (by assumption) ?_
    · (intro w1 hSw; (try dsimp only at hSw); go_simp)
    simp only [List.getElem_toArray, List.getElem_cons_succ, List.getElem_cons_zero, Act.put, List.setIfInBounds_toArray, List.set_cons_zero, List.set_cons_succ]
    refine wpAnyH_take (i := 15) (v := .pointer (some ⟨h, 0, none⟩)) rfl (by kernel_rfl) (by kernel_rfl) (by kernel_rfl) (fun _ _ _ h => h) (Or.inl ⟨by rfl, ?_⟩) (by assumption) ?_
    · (intro w1 hSw; (try dsimp only at hSw); go_simp)
    simp only [List.getElem_toArray, List.getElem_cons_succ, List.getElem_cons_zero, Act.put, List.setIfInBounds_toArray, List.set_cons_zero, List.set_cons_succ]
    refine wpAnyH_take (i := 16) (v := .pointer (some ⟨h, 0, none⟩)) rfl (by kernel_rfl) (by kernel_rfl) (by kernel_rfl) (fun _ _ _ h => h) (Or.inl ⟨by rfl, ?_⟩) (by assumption) ?_
    · (intro w1 hSw; (try dsimp only at hSw); go_simp)
    simp only [List.getElem_toArray, List.getElem_cons_succ, List.getElem_cons_zero, Act.put, List.setIfInBounds_toArray, List.set_cons_zero, List.set_cons_succ]
    refine wpAnyH_take (i := 17) (v := .pointer (some ⟨h, 0, none⟩)) rfl (by kernel_rfl) (by kernel_rfl) (by kernel_rfl) (fun _ _ _ h => h) (Or.inl ⟨by rfl, ?_⟩) (by assumption) ?_
    · (intro w1 hSw; (try dsimp only at hSw); go_simp)
    simp only [List.getElem_toArray, List.getElem_cons_succ, List.getElem_cons_zero, Act.put, List.setIfInBounds_toArray, List.set_cons_zero, List.set_cons_succ]
    refine wpAnyH_take (i := 18) (v := .slice (some ⟨gp, 0, none⟩) P.length cap) rfl (by kernel_rfl) (by kernel_rfl) (by kernel_rfl) (fun _ _ _ h => h) (Or.inl ⟨by rfl, ?_⟩) (by assumption) ?_
    · (intro w1 hSw; (try dsimp only at hSw); go_simp)
    simp only [List.getElem_toArray, List.getElem_cons_succ, List.getElem_cons_zero, Act.put, List.setIfInBounds_toArray, List.set_cons_zero, List.set_cons_succ]
    refine wpAnyH_take (i := 19) (v := .int .i64 (j : Int)) rfl (by kernel_rfl) (by kernel_rfl) (by kernel_rfl) (fun _ _ _ h => h) (Or.inl ⟨by rfl, ?_⟩) (by assumption) ?_
    · (intro w1 hSw; (try dsimp only at hSw); go_simp)
    simp only [List.getElem_toArray, List.getElem_cons_succ, List.getElem_cons_zero, Act.put, List.setIfInBounds_toArray, List.set_cons_zero, List.set_cons_succ]
    refine wpAnyH_take (i := 20) (v := .pointer (some ⟨gp, j * 2, none⟩)) rfl (by kernel_rfl) (by kernel_rfl) (by kernel_rfl) (fun _ _ _ h => h) (Or.inl ⟨by rfl, ?_⟩) (by assumption) ?_
    · (intro w1 hSw; (try dsimp only at hSw); go_simp)
    simp only [List.getElem_toArray, List.getElem_cons_succ, List.getElem_cons_zero, Act.put, List.setIfInBounds_toArray, List.set_cons_zero, List.set_cons_succ]
    refine wpAnyH_take (i := 21) (v := .agg #[.slice (some ⟨qg, qo, none⟩) qxs.length qc, .int .i64 (qr : Int)]) rfl (by kernel_rfl) (by kernel_rfl) (by kernel_rfl) (fun _ _ _ h => h) (Or.inl ⟨by rfl, ?_⟩) (by assumption) ?_
    · (intro w1 hSw; (try dsimp only at hSw); go_simp)
    simp only [List.getElem_toArray, List.getElem_cons_succ, List.getElem_cons_zero, Act.put, List.setIfInBounds_toArray, List.set_cons_zero, List.set_cons_succ]
    refine wpAnyH_ready (rs := [22]) (by kernel_rfl) (by simp) ?_
    refine AllReadyH.cons (o := _) rfl (fun K hK => ?_) AllReadyH.nil
    go_simp
    refine (order_any pg po _ pc qg qo _ qc _ _ _ _ (pr : Int) (qr : Int) hnx hny _ ((hHeld.2.2.2.2.2.2.cell (p := ⟨pg, po, none⟩) hgx).trans HX.out) ((hHeld.2.2.2.2.2.2.cell (p := ⟨qg, qo, none⟩) hgy).trans HY.out) (HOX.out.below hHeld.2.2.2.2.2.2) (HOY.out.below hHeld.2.2.2.2.2.2)).mono ?_
    rintro e w' ⟨rfl, hb'⟩
    have hk := hHeld.2.2.2.2.2.2.trans (hb'.mono hHeld.2.2.2.2.2.2.size)
    go_simp
    refine hK.out _ _ ?_ (fun hHeld => ?_)
    · exact ⟨(hk.cell (cell_block hB).1).trans hB, (hk.cell (cell_block hh0).1).trans hh0, (hk.cell (cell_block p0).1).trans p0, (hk.cell (cell_block p1).1).trans p1, (hk.cell (cell_block q0).1).trans q0, (hk.cell (cell_block q1).1).trans q1, hk⟩
    clear hK K
    generalize ordF x.k (pr : Int) y.k (qr : Int) = oo at *
    by_cases ho : oo < 0
    · skip
      refine wpAnyH_take (i := 23) (v := .bool true) rfl (by kernel_rfl) (by kernel_rfl) (by kernel_rfl) (fun _ _ _ h => h) (Or.inl ⟨by rfl, ?_⟩) (by assumption) ?_
      · (intro w1 hSw; (try dsimp only at hSw); go_simp)
      simp only [List.getElem_toArray, List.getElem_cons_succ, List.getElem_cons_zero, Act.put, List.setIfInBounds_toArray, List.set_cons_zero, List.set_cons_succ]
      refine wpAnyH_take (i := 24) (v := .bool true) rfl (by kernel_rfl) (by kernel_rfl) (by kernel_rfl) (fun _ _ _ h => h) (Or.inl ⟨by rfl, ?_⟩) (by assumption) ?_
      · (intro w1 hSw; (try dsimp only at hSw); go_simp)
      simp only [List.getElem_toArray, List.getElem_cons_succ, List.getElem_cons_zero, Act.put, List.setIfInBounds_toArray, List.set_cons_zero, List.set_cons_succ]
      refine wpAnyH_take (i := 25) (v := .bool true) rfl (by kernel_rfl) (by kernel_rfl) (by kernel_rfl) (fun _ _ _ h => h) (Or.inl ⟨by rfl, ?_⟩) (by assumption) ?_
      · (intro w1 hSw; (try dsimp only at hSw); go_simp)
      simp only [List.getElem_toArray, List.getElem_cons_succ, List.getElem_cons_zero, Act.put, List.setIfInBounds_toArray, List.set_cons_zero, List.set_cons_succ]
      refine wpAnyH_done (by kernel_rfl) ?_ _
      refine NoPanic.normal ?_
      go_wp2_with fail
      go_ret
      exact ⟨true, rfl, ⟨fun _ => ⟨hi, HI.out.2 ho⟩, fun _ => rfl⟩, hHeld.2.2.2.2.2.2⟩
    · skip
      refine wpAnyH_take (i := 23) (v := .bool false) rfl (by kernel_rfl) (by kernel_rfl) (by kernel_rfl) (fun _ _ _ h => h) (Or.inl ⟨by rfl, ?_⟩) (by assumption) ?_
      · (intro w1 hSw; (try dsimp only at hSw); go_simp)
      simp only [List.getElem_toArray, List.getElem_cons_succ, List.getElem_cons_zero, Act.put, List.setIfInBounds_toArray, List.set_cons_zero, List.set_cons_succ]
      refine wpAnyH_take (i := 24) (v := .bool false) rfl (by kernel_rfl) (by kernel_rfl) (by kernel_rfl) (fun _ _ _ h => h) (Or.inl ⟨by rfl, ?_⟩) (by assumption) ?_
      · (intro w1 hSw; (try dsimp only at hSw); go_simp)
      simp only [List.getElem_toArray, List.getElem_cons_succ, List.getElem_cons_zero, Act.put, List.setIfInBounds_toArray, List.set_cons_zero, List.set_cons_succ]
      refine wpAnyH_take (i := 25) (v := .bool false) rfl (by kernel_rfl) (by kernel_rfl) (by kernel_rfl) (fun _ _ _ h => h) (Or.inl ⟨by rfl, ?_⟩) (by assumption) ?_
      · (intro w1 hSw; (try dsimp only at hSw); go_simp)
      simp only [List.getElem_toArray, List.getElem_cons_succ, List.getElem_cons_zero, Act.put, List.setIfInBounds_toArray, List.set_cons_zero, List.set_cons_succ]
      refine wpAnyH_done (by kernel_rfl) ?_ _
      refine NoPanic.normal ?_
      go_wp2_with fail
      go_ret
      exact ⟨false, rfl, ⟨fun h => (by cases h), fun h => (by have := HI.out.1 h.2; omega)⟩, hHeld.2.2.2.2.2.2⟩
  · clear e5 hj
    have HN : Hid (¬ i < P.length) := hi
    obtain ⟨n, Hn⟩ := hid_ex P.length
    rw [← Hn.out] at hh0 hi
    go_enter Try.func65, Try.ntmps65
    go_wp2_with fail
    go_quiet (fail)
    go_wp2_with fail
    go_ret
    exact ⟨false, rfl, ⟨fun h => (by cases h), fun h => absurd h.1 HN.out⟩, below_drewN (Below.refl _ _) _⟩
end Go.Proofs.Ytbadjigfcncfcaa

/- A drawn region with a store at its end: what is loaded ahead of it is taken in the world ahead of it. -/
namespace Go.Proofs.Ytbadjigfcncfcaa
open Go.RowKit

section
variable {P : Program} {ops : Array Oper} {Q : Exit → Act → World → Prop} {md : Region.Mode} {k : Nat} {St Pr : World → Prop}
/-- What holds all the time, and what holds till operation k has come up. -/
def StK (k : Nat) (St Pr : World → Prop) (L : Array Bool) (w : World) : Prop := St w ∧ (L.getD k false = false → Pr w)
def wpAnyS (P : Program) (md : Region.Mode) (ops : Array Oper) (Q : Exit → Act → World → Prop) (k : Nat) (St Pr : World → Prop) : Nat → Array Bool → Act → World → Prop
  | 0, listed, a, w => Region.ready md ops listed = [] ∧ Q .normal a w
  | fuel + 1, listed, a, w =>
    (Region.ready md ops listed = [] → Q .normal a w) ∧
    ∀ i ∈ Region.ready md ops listed, wpOp P ops Q i (fun a' w' => StK k St Pr (listed.setIfInBounds i true) w' ∧ wpAnyS P md ops Q k St Pr fuel (listed.setIfInBounds i true) a' w') a w
theorem wpAny_of_S : ∀ (fuel : Nat) (listed : Array Bool) (a : Act) (w : World), wpAnyS P md ops Q k St Pr fuel listed a w → wpAny P md ops Q fuel listed a w
  | 0, _, _, _, h => h
  | fuel + 1, _, _, _, h => ⟨h.1, fun i hi => wpOp_mono (fun a' w' h' => wpAny_of_S fuel _ a' w' h'.2) (h.2 i hi)⟩
/-- Whatever came up, what it waits for came up. -/
def Cl (md : Region.Mode) (ops : Array Oper) (L : Array Bool) : Prop := ∀ j o, ops[j]? = some o → L.getD j false = true → ∀ e ∈ o.after, Region.binds md e = true → L.getD e.on false = true
def clB (md : Region.Mode) (ops : Array Oper) (L : Array Bool) : Bool := (List.range ops.size).all fun j => !L.getD j false || match ops[j]? with | some o => o.after.all (fun e => !Region.binds md e || L.getD e.on false) | none => true
theorem clB_spec {L : Array Bool} (h : clB md ops L = true) : Cl md ops L := by
  intro j o ho hl e he hb
  have h1 := List.all_eq_true.1 h j (List.mem_range.2 (Array.getElem?_eq_some_iff.1 ho).1)
  rw [hl, ho] at h1
  simp only [Bool.not_true, Bool.false_or] at h1
  have h2 := Array.all_eq_true_iff_forall_mem.1 h1 e he
  rw [hb] at h2
  simpa using h2
theorem Cl.set {L : Array Bool} {j : Nat} (h : Cl md ops L) (hj : j ∈ Region.ready md ops L) : Cl md ops (L.setIfInBounds j true) := by
  obtain ⟨_, o, ho, hall⟩ := mem_ready.1 hj
  intro i oi hoi hl e he hb
  by_cases hij : j = i
  · subst hij
    rw [ho] at hoi
    obtain rfl : o = oi := by simpa using hoi
    exact getD_set_true (hall e he hb)
  · rw [getD_set_ne false hij] at hl
    exact getD_set_true (h i oi hoi hl e he hb)
/-- Does operation k wait for i? -/
def waits (md : Region.Mode) (ops : Array Oper) (k i : Nat) : Bool := match ops[k]? with | some o => o.after.any (fun e => Region.binds md e && e.on == i) | none => false
theorem wpAnyS_first {i : Nat} {oi : Oper} {v : Value} (hi : ops[i]? = some oi) (hsel : ∀ (j : Nat) (o : Oper) cs b, ops[j]? = some o → o.op ≠ .select cs b)
    (hQ : ∀ c a w, Q (.panic c) (a.put oi.dst v) w → Q (.panic c) a w) (hik : i ≠ k) (dep : Bool) (hdep : waits md ops k i = dep) :
    ∀ (fuel : Nat) (listed : Array Bool) (a : Act) (w : World), Cl md ops listed →
      (∀ j oj, ops[j]? = some oj → j ≠ i → listed.getD j true = false → (∀ e ∈ oj.after, Region.binds md e = true → e.on ≠ i) → oi.apart ops oj = true) →
      i ∈ Region.ready md ops listed → YieldsIf P ops (fun w' => St w' ∧ (dep = true → Pr w')) oi v a → StK k St Pr listed w →
      wpAnyS P md ops Q k St Pr fuel (listed.setIfInBounds i true) (a.put oi.dst v) w → wpAnyS P md ops Q k St Pr (fuel + 1) listed a w := by
  have hdone : ∀ (listed : Array Bool) (w : World), Cl md ops listed → i ∈ Region.ready md ops listed → StK k St Pr listed w → (St w ∧ (dep = true → Pr w)) := fun listed w hcl hr hS => by
    refine ⟨hS.1, fun hd => hS.2 ?_⟩
    subst hdep
    unfold waits at hd
    cases hok : ops[k]? with
    | none => rw [hok] at hd; cases hd
    | some ok =>
      rw [hok] at hd
      obtain ⟨e, he, hq⟩ := Array.any_eq_true'.1 hd
      simp only [Bool.and_eq_true, beq_iff_eq] at hq
      cases hl : listed.getD k false with
      | false => rfl
      | true =>
        have h1 := hcl k ok hok hl e he hq.1
        rw [hq.2] at h1
        have h0 := (mem_ready.1 hr).1
        rcases Nat.lt_or_ge i listed.size with h' | h'
        · simp [h'] at h0 h1; rw [h0] at h1; cases h1
        · simp [Array.getElem?_eq_none h'] at h1
  have hset : ∀ (listed : Array Bool) (w : World), StK k St Pr listed w → StK k St Pr (listed.setIfInBounds i true) w := fun listed w h => ⟨h.1, fun hk => h.2 (by rw [getD_set_ne false hik] at hk; exact hk)⟩
  intro fuel
  induction fuel with
  | zero =>
    intro listed a w hcl _ hr hy hS H
    refine ⟨fun h => (by rw [h] at hr; cases hr), fun j hj => ?_⟩
    by_cases hji : j = i
    · subst hji; exact YieldsIf.wpOp (S := fun w' => St w' ∧ (dep = true → Pr w')) hi hy (hdone _ _ hcl hr hS) ⟨hset _ _ hS, H⟩
    · have := ready_mono hj hji
      rw [H.1] at this
      cases this
  | succ fuel ih =>
    intro listed a w hcl hfree hr hy hS H
    refine ⟨fun h => (by rw [h] at hr; cases hr), fun j hj => ?_⟩
    by_cases hji : j = i
    · subst hji; exact YieldsIf.wpOp (S := fun w' => St w' ∧ (dep = true → Pr w')) hi hy (hdone _ _ hcl hr hS) ⟨hset _ _ hS, H⟩
    · have h1 := H.2 j (ready_mono hj hji)
      obtain ⟨hjun, oj, hoj, hall⟩ := mem_ready.1 hj
      have hnot : ∀ e ∈ oj.after, Region.binds md e = true → e.on ≠ i := fun e he hb heq => by
        have h1 := hall e he hb
        have h0 := (mem_ready.1 hr).1
        rw [heq] at h1
        rcases Nat.lt_or_ge i listed.size with h' | h'
        · simp [h'] at h0 h1; rw [h0] at h1; cases h1
        · simp [Array.getElem?_eq_none h'] at h1
      have h2 := wpOp_putIf hoj (hfree j oj hoj hji hjun hnot) (fun cs b => hsel i oi cs b hi) (fun cs b => hsel j oj cs b hoj) hQ hy h1
      have hfree' : ∀ k ok, ops[k]? = some ok → k ≠ i → (listed.setIfInBounds j true).getD k true = false →
          (∀ e ∈ ok.after, Region.binds md e = true → e.on ≠ i) → oi.apart ops ok = true := fun k ok hk hki hun hno => by
        refine hfree k ok hk hki ?_ hno
        by_cases hjk : j = k
        · subst hjk; exact hjun
        · rw [getD_set_ne true hjk] at hun; exact hun
      refine wpOp_mono (fun a' w' h3 => ?_) h2
      have hS' : StK k St Pr (listed.setIfInBounds j true) w' := ⟨h3.2.1.1, fun hk => h3.2.1.2 (by
        rw [Array.setIfInBounds_comm _ _ (Ne.symm hji), getD_set_ne false hik]; exact hk)⟩
      refine ⟨hS', ih (listed.setIfInBounds j true) a' w' (hcl.set hj) hfree' (ready_mono hr (Ne.symm hji)) h3.1 hS' ?_⟩
      rw [Array.setIfInBounds_comm _ _ hji]
      exact h3.2.2
theorem wpAnyS_take {i : Nat} {oi : Oper} {v : Value} {fuel : Nat} {listed : Array Bool} {a : Act} {w : World} (dep : Bool) (hi : ops[i]? = some oi)
    (hs : Region.noSelect ops = true) (hf : Region.free md ops listed i = true) (hr : (Region.ready md ops listed).contains i = true) (hcl : clB md ops listed = true) (hik : Nat.beq i k = false) (hdep : waits md ops k i = dep)
    (hQ : ∀ c a w, Q (.panic c) (a.put oi.dst v) w → Q (.panic c) a w) (hy : YieldsIf P ops (fun w' => St w' ∧ (dep = true → Pr w')) oi v a) (hS : StK k St Pr listed w)
    (h : StK k St Pr (listed.setIfInBounds i true) w → wpAnyS P md ops Q k St Pr fuel (listed.setIfInBounds i true) (a.put oi.dst v) w) : wpAnyS P md ops Q k St Pr (fuel + 1) listed a w := by
  have hne : i ≠ k := fun e => by subst e; simp at hik
  exact wpAnyS_first hi (Region.noSelect_spec hs) hQ hne dep hdep fuel listed a w (clB_spec hcl) (Region.free_spec hi hf) (by simpa using hr) hy hS (h ⟨hS.1, fun hk => hS.2 (by rw [getD_set_ne false hne] at hk; exact hk)⟩)
theorem wpAnyS_ready {i : Nat} {o : Oper} {fuel : Nat} {listed : Array Bool} {a : Act} {w : World} (hr : Region.ready md ops listed = [i]) (ho : ops[i]? = some o)
    (h : ∀ K : Act → World → Prop, Shut (∀ a w, StK k St Pr (listed.setIfInBounds i true) w → (StK k St Pr (listed.setIfInBounds i true) w → wpAnyS P md ops Q k St Pr fuel (listed.setIfInBounds i true) a w) → K a w) → if Region.wanted o (yielded ops a.tmps) = true then Oper.wp P o a w K Q else K (a.put o.dst undef) w) : wpAnyS P md ops Q k St Pr (fuel + 1) listed a w := by
  refine ⟨fun h0 => (by rw [hr] at h0; cases h0), fun j hj => ?_⟩
  rw [hr] at hj
  obtain rfl : j = i := by simpa using hj
  exact wpOp_step ho (fun K' hK => h K' (fun a w h1 h2 => hK a w ⟨h1, h2 h1⟩))
theorem wpAnyS_done {listed : Array Bool} {a : Act} {w : World} (hr : Region.ready md ops listed = []) (h : Q .normal a w) : ∀ fuel, wpAnyS P md ops Q k St Pr fuel listed a w
  | 0 => ⟨hr, h⟩
  | _ + 1 => ⟨fun _ => h, by rw [hr]; simp⟩
theorem wp_region_S {id : Nat} {a : Act} {w : World} (k : Nat) (St Pr : World → Prop) (hm : P.follows .mixedOrders = true) (hS : St w.drew) (hP : Pr w.drew)
    (h : StK k St Pr (Array.replicate ops.size false) w.drew → wpAnyS P .any ops Q k St Pr ops.size (Array.replicate ops.size false) a w.drew) : (Code.region id ops true).wp P Q a w :=
  wp_region_any hm (wpAny_of_S _ _ _ _ (h ⟨hS, fun _ => hP⟩))
end
end Go.Proofs.Ytbadjigfcncfcaa
