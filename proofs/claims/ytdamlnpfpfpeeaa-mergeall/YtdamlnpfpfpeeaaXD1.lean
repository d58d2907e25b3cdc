/- Two numbers' digits, each into an array of its own, in whatever order they come: what the operations yield. -/
import Derived.Test.YtdamlnpfpfpeeaaX1
import Derived.Test.YtdamlnpfpfpeeaaRI2
import Derived.Test.YtdamlnpfpfpeeaaSS
namespace Go.Proofs.Ytdamlnpfpfpeeaa
open Go.RowKit

def uhD (x : Int) : Int := hi x % 18446744073709551616
theorem uhD_bd (x : Int) : 0 ≤ uhD x ∧ uhD x < 18446744073709551616 := by unfold uhD; omega
/-- A number's digits. -/
def dF (x : Int) (j : Nat) : Int := if j < 8 then dig (lo x) j else dig (uhD x) (j - 8)
def wv (x : Int) : Value := .agg #[.int .i64 (hi x), .int .u64 (lo x)]
def dvL (x : Int) : List Value := (List.range 16).map fun j => .int .i64 (dF x j)
def dv (x : Int) : Value := .agg (dvL x).toArray
theorem dvL_len (x : Int) : (dvL x).length = 16 := by simp [dvL]
theorem digits_dv (x : Int) (w : World) : Calls Try.prog 37 #[wv x] w fun e w' => e = .returned (dv x) ∧ Below w.heap.size w w' :=
  digits_walk (hi x) (lo x) (uhD x) (lo_bd x).1 (lo_bd x).2 (by rw [IntKind.wrap_u64]; rfl) (uhD_bd x).1 (uhD_bd x).2 w
/-- Room for sixteen digits. -/
def Bd (n0 : Nat) (v : Value) (w : World) : Prop := ∃ b, v = .pointer (some ⟨b, 0, none⟩) ∧ n0 ≤ b ∧ b < w.heap.size ∧ ∃ cs T, w.heap[b]? = some (.cells cs T) ∧ cs.size = 16
def Fd (n0 : Nat) (x : Int) (v : Value) (w : World) : Prop := ∃ b, v = .pointer (some ⟨b, 0, none⟩) ∧ n0 ≤ b ∧ DArr w b (dF x)
theorem Bd.below {n0 : Nat} {v : Value} {w1 w2 : World} (h : Bd n0 v w1) (hb : Below w1.heap.size w1 w2) : Bd n0 v w2 := by
  obtain ⟨b, e, h0, h1, cs, T, h2, h3⟩ := h
  exact ⟨b, e, h0, by have := hb.size; omega, cs, T, (hb.block b h1).trans h2, h3⟩
theorem Fd.below {n0 : Nat} {x : Int} {v : Value} {w1 w2 : World} (h : Fd n0 x v w1) (hb : Below w1.heap.size w1 w2) : Fd n0 x v w2 := by
  obtain ⟨b, e, h0, h1⟩ := h
  exact ⟨b, e, h0, h1.below hb⟩
theorem DArr.same {b : Nat} {f : Nat → Int} {w1 w2 : World} (h : DArr w1 b f) (hs : w1.heap.size ≤ w2.heap.size) (he : w2.heap[b]? = w1.heap[b]?) : DArr w2 b f := by
  obtain ⟨h0, h1, h2⟩ := h
  exact ⟨by omega, fun j hj => by rw [← h1 j hj]; simp only [World.cell?, he], fun j => by rw [← h2 j]; simp only [World.frozen?, he]⟩
theorem Bd.store {n0 : Nat} {v : Value} {w W : World} {g : Nat} {cur : Array Value} {T : TypeId} {vs : List Value} (h : Bd n0 v w) (hc : cur.size = 16) (hS : StW w W g 0 cur T vs) : Bd n0 v W := by
  obtain ⟨b, e, h0, h1, cs, T2, h2, h3⟩ := h
  have hsz := (hS.b 0 (Nat.zero_le _)).size
  by_cases hb : b = g
  · subst hb
    obtain ⟨cur', c1, c2, _⟩ := hS.c
    exact ⟨b, e, h0, by omega, cur', T, c1, by omega⟩
  · exact ⟨b, e, h0, by omega, cs, T2, (hS.o b hb).trans h2, h3⟩
theorem Fd.store {n0 : Nat} {x : Int} {v : Value} {w W : World} {g : Nat} {cur : Array Value} {T : TypeId} {vs : List Value} (h : Fd n0 x v w) (hne : v ≠ .pointer (some ⟨g, 0, none⟩)) (hS : StW w W g 0 cur T vs) : Fd n0 x v W := by
  obtain ⟨b, e, h0, h1⟩ := h
  have hb : b ≠ g := fun e2 => hne (by rw [e, e2])
  exact ⟨b, e, h0, h1.same (hS.b 0 (Nat.zero_le _)).size (hS.o b hb)⟩
theorem Fd.mk {n0 : Nat} {x : Int} {w W : World} {g : Nat} {cur : Array Value} {T : TypeId} (h0 : n0 ≤ g) (hg : g < w.heap.size) (hS : StW w W g 0 cur T (dvL x)) : Fd n0 x (.pointer (some ⟨g, 0, none⟩)) W := by
  have hsz := (hS.b 0 (Nat.zero_le _)).size
  obtain ⟨cur', c1, c2, _, c4⟩ := hS.c
  refine ⟨g, rfl, h0, by omega, fun j hj => ?_, fun j => by simp [World.frozen?, c1]⟩
  have h := c4 j (by rw [dvL_len]; exact hj)
  have e : (dvL x)[j]'(by rw [dvL_len]; exact hj) = .int .i64 (dF x j) := by simp [dvL]
  rw [e, Nat.zero_add] at h
  simp [World.cell?, c1, h]
/-- What each of its operations yields. -/
def dV (x y : Int) (n0 : Nat) : Nat → (Nat → Value) → World → Prop
  | 0, g, _ => g 0 = wv x
  | 1, g, _ => g 1 = dv x
  | 2, g, _ => g 2 = wv y
  | 3, g, _ => g 3 = dv y
  | 4, g, w => Bd n0 (g 4) w
  | 5, g, w => Bd n0 (g 5) w
  | 6, g, w => Fd n0 x (g 4) w
  | 7, g, w => Fd n0 y (g 5) w
  | _, _, _ => True
theorem dV.below {x y : Int} {n0 : Nat} {j : Nat} {g : Nat → Value} {w1 w2 : World} (hb : Below w1.heap.size w1 w2) (h : dV x y n0 j g w1) : dV x y n0 j g w2 := by
  match j, h with
  | 0, h => exact h
  | 1, h => exact h
  | 2, h => exact h
  | 3, h => exact h
  | 4, h => exact Bd.below h hb
  | 5, h => exact Bd.below h hb
  | 6, h => exact Fd.below h hb
  | 7, h => exact Fd.below h hb
  | _ + 8, _ => trivial
theorem dV.store {x y : Int} {n0 : Nat} {j : Nat} {g : Nat → Value} {w1 W : World} {p : Nat} {cs : Array Value} {T : TypeId} {vs : List Value} (hS : StW w1 W p 0 cs T vs) (hc : cs.size = 16)
    (k6 : Fd n0 x (g 4) w1 → Fd n0 x (g 4) W) (k7 : Fd n0 y (g 5) w1 → Fd n0 y (g 5) W) (h : dV x y n0 j g w1) : dV x y n0 j g W := by
  match j, h with
  | 0, h => exact h
  | 1, h => exact h
  | 2, h => exact h
  | 3, h => exact h
  | 4, h => exact Bd.store h hc hS
  | 5, h => exact Bd.store h hc hS
  | 6, h => exact k6 h
  | 7, h => exact k7 h
  | _ + 8, _ => trivial
theorem dV.loc {x y : Int} {n0 : Nat} {j : Nat} {g g' : Nat → Value} {w : World} (hj : g j = g' j) (h4 : j = 6 → g 4 = g' 4) (h5 : j = 7 → g 5 = g' 5) (h : dV x y n0 j g w) : dV x y n0 j g' w := by
  match j, hj, h4, h5, h with
  | 0, hj, _, _, h => exact hj.symm.trans h
  | 1, hj, _, _, h => exact hj.symm.trans h
  | 2, hj, _, _, h => exact hj.symm.trans h
  | 3, hj, _, _, h => exact hj.symm.trans h
  | 4, hj, _, _, h => show Bd n0 (g' 4) w; rw [← hj]; exact h
  | 5, hj, _, _, h => show Bd n0 (g' 5) w; rw [← hj]; exact h
  | 6, _, h4, _, h => show Fd n0 _ (g' 4) w; rw [← h4 rfl]; exact h
  | 7, _, _, h5, h => show Fd n0 _ (g' 5) w; rw [← h5 rfl]; exact h
  | _ + 8, _, _, _, _ => trivial
theorem dV.box {x y : Int} {n0 : Nat} {j : Nat} {g : Nat → Value} {w : World} (hj : j ∈ [4, 5]) (h : dV x y n0 j g w) : ∃ p, g j = .pointer (some ⟨p, 0, none⟩) ∧ p < w.heap.size := by
  simp only [List.mem_cons, List.not_mem_nil, or_false] at hj
  rcases hj with rfl | rfl
  · obtain ⟨p, e, _, h1, _⟩ := h
    exact ⟨p, e, h1⟩
  · obtain ⟨p, e, _, h1, _⟩ := h
    exact ⟨p, e, h1⟩
/-- The digits of a number that is none below nothing. -/
def XD (x : Int) (j : Nat) : Int := (x + 170141183460469231731687303715884105728) / 256 ^ j % 256
theorem XD_bd (x : Int) (j : Nat) : 0 ≤ XD x j ∧ XD x j ≤ 255 := by unfold XD; omega
theorem XD_of {x : Int} (x1 : -170141183460469231731687303715884105728 ≤ x) (x2 : x < 170141183460469231731687303715884105728) (j : Nat) (hj : j < 16) : XD x j = if j = 15 then (dF x 15 + 128) % 256 else dF x j := by
  have hh : x = hi x * 18446744073709551616 + lo x := by unfold hi lo; omega
  have l := lo_bd x
  have h := hi_bd x
  unfold XD
  have e : x + 170141183460469231731687303715884105728 = (hi x + 9223372036854775808) * 18446744073709551616 + lo x := by omega
  rw [e]
  unfold dF dig uhD
  generalize hi x = H at *
  generalize lo x = M at *
  clear hh e x1 x2
  match j, hj with
  | 0, _ => simp; omega
  | 1, _ => simp; omega
  | 2, _ => simp; omega
  | 3, _ => simp; omega
  | 4, _ => simp; omega
  | 5, _ => simp; omega
  | 6, _ => simp; omega
  | 7, _ => simp; omega
  | 8, _ => simp; omega
  | 9, _ => simp; omega
  | 10, _ => simp; omega
  | 11, _ => simp; omega
  | 12, _ => simp; omega
  | 13, _ => simp; omega
  | 14, _ => simp; omega
  | 15, _ => simp; omega
  | k + 16, h => omega
theorem XD_step (x : Int) (j : Nat) : (x + 170141183460469231731687303715884105728) / 256 ^ j = (x + 170141183460469231731687303715884105728) / 256 ^ (j + 1) * 256 + XD x j := by
  unfold XD
  rw [Int.pow_succ, ← Int.ediv_ediv_of_nonneg (Int.le_of_lt (Int.pow_pos (by decide)))]
  omega
theorem XD_lt {x y : Int} {j : Nat} (h : (x + 170141183460469231731687303715884105728) / 256 ^ (j + 1) = (y + 170141183460469231731687303715884105728) / 256 ^ (j + 1)) (hd : XD x j < XD y j) : x < y := by
  have e1 := XD_step x j
  have e2 := XD_step y j
  have hp : (0 : Int) < 256 ^ j := Int.pow_pos (by decide)
  have h1 : (x + 170141183460469231731687303715884105728) / 256 ^ j < (y + 170141183460469231731687303715884105728) / 256 ^ j := by omega
  by_cases h2 : x < y
  · exact h2
  · have := Int.ediv_le_ediv hp (show y + 170141183460469231731687303715884105728 ≤ x + 170141183460469231731687303715884105728 by omega)
    omega
theorem XD_eq {x y : Int} {j : Nat} (h : (x + 170141183460469231731687303715884105728) / 256 ^ (j + 1) = (y + 170141183460469231731687303715884105728) / 256 ^ (j + 1)) (hd : XD x j = XD y j) : (x + 170141183460469231731687303715884105728) / 256 ^ j = (y + 170141183460469231731687303715884105728) / 256 ^ j := by
  rw [XD_step x j, XD_step y j, h, hd]
theorem XD_top {x : Int} (x1 : -170141183460469231731687303715884105728 ≤ x) (x2 : x < 170141183460469231731687303715884105728) : (x + 170141183460469231731687303715884105728) / 256 ^ 16 = 0 := by
  apply Int.ediv_eq_zero_of_lt (by omega)
  have : (256 : Int) ^ 16 = 340282366920938463463374607431768211456 := by decide
  omega
end Go.Proofs.Ytdamlnpfpfpeeaa
