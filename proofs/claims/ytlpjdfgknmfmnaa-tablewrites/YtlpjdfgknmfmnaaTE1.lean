/- Pl W1 A1 A2, joined. -/
import Derived.WalkKit
import Derived.Laws.Bits64
import Derived.Test.YtlpjdfgknmfmnaaRows
import Derived.WalkSpells
import Derived.WalkLawsBesides
import Derived.Laws.Externs
import Derived.Lib.Mul64
import Derived.Laws.Bits64b
import Derived.Deep.RegionHeld3
import Derived.BigQuiet
import Derived.Deep.QuietTactic
/- Plain arithmetic of numbers of 128 binary digits, told by their upper half (with sign) and lower half: no program in sight. -/
namespace Go.Proofs.Ytlpjdfgknmfmnaa
open Go.RowKit

/-- The lower half of a number, modulo 2^128. -/
def lo (x : Int) : Int := x % 18446744073709551616
/-- The upper half of a number, modulo 2^128, with its sign. -/
def hi (x : Int) : Int := (x / 18446744073709551616 + 9223372036854775808) % 18446744073709551616 - 9223372036854775808

theorem lo_def (x : Int) : lo x = x % 18446744073709551616 := rfl
theorem hi_def (x : Int) : hi x = (x / 18446744073709551616 + 9223372036854775808) % 18446744073709551616 - 9223372036854775808 := rfl
theorem lo_bd (x : Int) : 0 ≤ lo x ∧ lo x < 18446744073709551616 := by unfold lo; omega
theorem hi_bd (x : Int) : -9223372036854775808 ≤ hi x ∧ hi x < 9223372036854775808 := by unfold hi; omega

/-- Each pair of halves is one number's that can be told. -/
theorem of_halves (h l : Int) (h1 : -9223372036854775808 ≤ h) (h2 : h ≤ 9223372036854775807) (l1 : 0 ≤ l) (l2 : l ≤ 18446744073709551615) :
    ∃ x : Int, -170141183460469231731687303715884105728 ≤ x ∧ x < 170141183460469231731687303715884105728 ∧ h = hi x ∧ l = lo x := by
  refine ⟨h * 18446744073709551616 + l, by omega, by omega, ?_, ?_⟩
  · unfold hi; omega
  · unfold lo; omega
theorem halves_back (x : Int) (h1 : -170141183460469231731687303715884105728 ≤ x) (h2 : x < 170141183460469231731687303715884105728) : hi x * 18446744073709551616 + lo x = x := by
  unfold hi lo; omega
theorem hi_small (v : Int) (h1 : -9223372036854775808 ≤ v) (h2 : v ≤ 9223372036854775807) : v / 9223372036854775808 = hi v := by
  unfold hi; omega
theorem add_lo (x y : Int) : (lo x + lo y) % 18446744073709551616 = lo (x + y) := by unfold lo; omega
theorem add_hi (x y : Int) : hi x + hi y + (lo x + lo y) / 18446744073709551616 = x / 18446744073709551616 + y / 18446744073709551616 + (lo x + lo y) / 18446744073709551616 + 18446744073709551616 * ((hi x - x / 18446744073709551616) / 18446744073709551616 + (hi y - y / 18446744073709551616) / 18446744073709551616) := by
  unfold hi lo; omega
/-- Equal halves: equal modulo 2^128. -/
theorem halves_inj (x y : Int) (h : hi x = hi y) (l : lo x = lo y) : (x - y) % 340282366920938463463374607431768211456 = 0 := by
  unfold hi at h; unfold lo at l; omega
theorem halves_mod (x y : Int) (h : (x - y) % 340282366920938463463374607431768211456 = 0) : hi x = hi y ∧ lo x = lo y := by
  unfold hi lo; omega
/-- The sum's upper half, as two carries make it. -/
theorem add_hi' (x y : Int) :
    ((hi x % 18446744073709551616 + hi y % 18446744073709551616 + (lo x + lo y) / 18446744073709551616) % 18446744073709551616 + 9223372036854775808) % 18446744073709551616 - 9223372036854775808 = hi (x + y) := by
  unfold hi lo; omega
/-- -1, 0, 1. -/
def sgn (x y : Int) : Int := if x < y then -1 else if x = y then 0 else 1
/-- A sum of a list. -/
def sumI : List Int → Int
  | [] => 0
  | a :: l => a + sumI l
theorem sumI_snoc (l : List Int) (a : Int) : sumI (l ++ [a]) = sumI l + a := by
  induction l with
  | nil => simp [sumI]
  | cons b l ih => simp [sumI, ih]; omega

theorem ones_xor (v : BitVec 64) : (BitVec.ofInt 64 (-1) ^^^ v).toNat = 18446744073709551615 - v.toNat := by
  have e : BitVec.ofInt 64 (-1) = BitVec.allOnes 64 := by decide
  rw [e, BitVec.allOnes_xor, BitVec.toNat_not]
theorem bits_not_i64 (h : Int) (h1 : -9223372036854775808 ≤ h) (h2 : h < 9223372036854775808) : bits .xor .i64 (-1) h = -1 - h := by
  show IntKind.i64.wrap ((BitVec.ofInt 64 (-1) ^^^ BitVec.ofInt 64 h).toNat : Int) = _
  rw [ones_xor, IntKind.wrap_i64]
  have e : (BitVec.ofInt 64 h).toNat = (h % 18446744073709551616).toNat := by rw [BitVec.toNat_ofInt]; rfl
  rw [e]
  omega
theorem bits_not_u64 (h : Int) (h1 : 0 ≤ h) (h2 : h < 18446744073709551616) : bits .xor .u64 IntKind.u64.max h = 18446744073709551615 - h := by
  show IntKind.u64.wrap ((BitVec.ofInt 64 IntKind.u64.max ^^^ BitVec.ofInt 64 h).toNat : Int) = _
  have e0 : BitVec.ofInt 64 IntKind.u64.max = BitVec.ofInt 64 (-1) := by decide
  rw [e0, ones_xor, IntKind.wrap_u64]
  have e : (BitVec.ofInt 64 h).toNat = (h % 18446744073709551616).toNat := by rw [BitVec.toNat_ofInt]; rfl
  rw [e]
  omega
end Go.Proofs.Ytlpjdfgknmfmnaa

/- The contracts of wide's small functions (Of, carried, Add, Minus) over the translated program: each returns the numbers that plain arithmetic names, and nothing that was there is changed. -/
namespace Go.Proofs.Ytlpjdfgknmfmnaa
open Go.RowKit

theorem take_snocI (l : List Int) (k : Nat) (h : k < l.length) : l.take (k + 1) = l.take k ++ [l.getD k 0] := by
  rw [List.take_succ_eq_append_getElem h]; simp [List.getD, h]
theorem sumI_take (l : List Int) (k : Nat) (h : k < l.length) : sumI (l.take (k + 1)) = sumI (l.take k) + l.getD k 0 := by
  rw [take_snocI l k h, sumI_snoc]
theorem sumI_bd (l : List Int) (hl : ∀ x ∈ l, 0 ≤ x ∧ x < 18446744073709551616) : 0 ≤ sumI l ∧ sumI l ≤ 18446744073709551615 * l.length := by
  induction l with
  | nil => simp [sumI]
  | cons a l ih =>
    have := ih (fun x hx => hl x (List.mem_cons_of_mem _ hx))
    have h2 := hl a (List.mem_cons_self ..)
    simp [sumI]; omega

theorem getD_mem (l : List Int) (k : Nat) (h : k < l.length) : l.getD k 0 ∈ l := by
  have e : l.getD k 0 = l[k] := by simp [List.getD, h]
  rw [e]; exact List.getElem_mem h

end Go.Proofs.Ytlpjdfgknmfmnaa

/- The contracts of agg.together, chosen, Merge. -/
namespace Go.Proofs.Ytlpjdfgknmfmnaa
open Go.RowKit

/-- What is known of facts. -/
structure Ag where
  c : Int
  o : Bool
  s : Int
  mn : Int
  mx : Int

def cntF (a b : Int) : Int := if a + b < 18446744073709551616 then a + b else 18446744073709551615
def ovF (a b : Int) : Bool := decide (18446744073709551616 ≤ a + b)
def minF (a b : Int) : Int := if b < a then b else a
def maxF (a b : Int) : Int := if a < b then b else a
def mrg (a b : Ag) : Ag := if a.c = 0 then b else if b.c = 0 then a else ⟨cntF a.c b.c, ovF a.c b.c || a.o || b.o, a.s + b.s, minF a.mn b.mn, maxF a.mx b.mx⟩

end Go.Proofs.Ytlpjdfgknmfmnaa

/- The contracts of agg.Right and One. -/
namespace Go.Proofs.Ytlpjdfgknmfmnaa
open Go.RowKit

def rightB (a : Ag) : Bool := if a.c = 0 then (!a.o && (hi a.s == 0) && (lo a.s == 0) && (a.mn == 0) && (a.mx == 0)) else (decide (a.mn ≤ a.mx) && (!a.o || (a.c == 18446744073709551615)))

set_option maxRecDepth 100000 in
set_option maxHeartbeats 1000000 in
theorem right_zero (a : Ag) (h : a.c = 0) (w : World) :
    Calls Try.prog 48 #[.agg #[.int .u64 a.c, .bool a.o, .int .i64 (hi a.s), .int .u64 (lo a.s), .int .i64 a.mn, .int .i64 a.mx]] w fun e w' => e = .returned (.bool (rightB a)) ∧ Below w.heap.size w w' := by
  obtain ⟨c, o, s, mn, mx⟩ := a
  simp only at h
  subst h
  have hb : ((0 : Int) == 0) = true := rfl
  go_enter Try.func48, Try.ntmps48
  go_wp2_with fail
  all_goals
    go_ret
    refine ⟨?_, (Below.refl _ _).alloc (by simp) _⟩
    simp [rightB, *]
set_option maxRecDepth 100000 in
set_option maxHeartbeats 1000000 in
theorem right_some (a : Ag) (h : a.c ≠ 0) (w : World) :
    Calls Try.prog 48 #[.agg #[.int .u64 a.c, .bool a.o, .int .i64 (hi a.s), .int .u64 (lo a.s), .int .i64 a.mn, .int .i64 a.mx]] w fun e w' => e = .returned (.bool (rightB a)) ∧ Below w.heap.size w w' := by
  have e : rightB a = (decide (a.mn ≤ a.mx) && (!a.o || (a.c == 18446744073709551615))) := by unfold rightB; rw [if_neg h]
  have hb : (a.c == 0) = false := by simp [h]
  by_cases h1 : a.mn ≤ a.mx
  · have hd : decide (a.mn ≤ a.mx) = true := by simpa using h1
    cases ho : a.o
    · have HE : Hid (rightB a = true) := by unfold Hid; rw [e, hd, ho]; rfl
      clear e h h1 ho
      go_enter Try.func48, Try.ntmps48
      go_wp2_with fail
      go_ret
      exact ⟨by rw [HE.out]; rfl, (Below.refl _ _).alloc (by simp) _⟩
    · have HE : Hid (rightB a = (a.c == 18446744073709551615)) := by unfold Hid; rw [e, hd, ho]; simp
      clear e h h1 ho
      generalize hm : (a.c == 18446744073709551615) = mm at *
      cases mm
      · go_enter Try.func48, Try.ntmps48
        go_wp2_with fail
        go_ret
        exact ⟨by rw [HE.out]; rfl, (Below.refl _ _).alloc (by simp) _⟩
      · go_enter Try.func48, Try.ntmps48
        go_wp2_with fail
        go_ret
        exact ⟨by rw [HE.out]; rfl, (Below.refl _ _).alloc (by simp) _⟩
  · have hd : decide (a.mn ≤ a.mx) = false := by simpa using h1
    have HE : Hid (rightB a = false) := by unfold Hid; rw [e, hd]; rfl
    clear e h h1
    go_enter Try.func48, Try.ntmps48
    go_wp2_with fail
    go_ret
    exact ⟨by rw [HE.out]; rfl, (Below.refl _ _).alloc (by simp) _⟩
theorem right_any (a : Ag) (w : World) :
    Calls Try.prog 48 #[.agg #[.int .u64 a.c, .bool a.o, .int .i64 (hi a.s), .int .u64 (lo a.s), .int .i64 a.mn, .int .i64 a.mx]] w fun e w' => e = .returned (.bool (rightB a)) ∧ Below w.heap.size w w' := by
  by_cases h : a.c = 0
  · exact right_zero a h w
  · exact right_some a h w

def oneF (v : Int) : Ag := ⟨1, false, v, v, v⟩
end Go.Proofs.Ytlpjdfgknmfmnaa
