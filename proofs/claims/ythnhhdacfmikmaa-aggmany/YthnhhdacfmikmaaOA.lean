/- What is known, as an argument by value: the value written out. -/
import Derived.Test.YthnhhdacfmikmaaA2
import Derived.ProofKit
import Derived.OpenShut
import Derived.Lib.SmallJoins
namespace Go.Proofs.Ythnhhdacfmikmaa
open Go.ChangeShapes Go.WideShapes Go.ChangeAt Go.RowKit Go.Joins

theorem cellsA : Try.prog.cellsOf 28 = 6 := by kernel_rfl
theorem cellsWd : Try.prog.cellsOf 26 = 2 := by kernel_rfl
theorem cells64 : Try.prog.cellsOf 2 = 1 := by kernel_rfl
theorem cellsU64 : Try.prog.cellsOf 24 = 1 := by kernel_rfl
theorem cellsBool : Try.prog.cellsOf 4 = 1 := by kernel_rfl
theorem array6 {α : Type} {cs : Array α} (h : cs.size = 6) : ∃ c0 c1 c2 c3 c4 c5, cs = #[c0, c1, c2, c3, c4, c5] := by
  obtain ⟨l⟩ := cs
  match l, h with
  | [c0, c1, c2, c3, c4, c5], _ => exact ⟨c0, c1, c2, c3, c4, c5, rfl⟩
theorem some_of_len {α : Type} {xs : List α} {n i : Nat} (h : xs.length = n) (hi : i < n) : ∃ y, xs[i]? = some y := ⟨xs[i], by rw [List.getElem?_eq_getElem (by omega)]⟩

/-- The facts on what is known that come with its kind. -/
structure AgOk (a : Ag) : Prop where
  c1 : 0 ≤ a.c
  c2 : a.c < 18446744073709551616
  n1 : -9223372036854775808 ≤ a.mn
  n2 : a.mn ≤ 9223372036854775807
  x1 : -9223372036854775808 ≤ a.mx
  x2 : a.mx ≤ 9223372036854775807
  s1 : -170141183460469231731687303715884105728 ≤ a.s
  s2 : a.s < 170141183460469231731687303715884105728

set_option maxRecDepth 100000 in
theorem openA {H : Type} {enc : TypeId × Value → H} {W : World} {r : Reach} {b0 base : Nat} {spare : Nat → Bool} {held : Bool} {v : Value} {d : DataW H} {p : List MemPlace}
    (hv : Value.okWide Try.prog W r b0 28 v) (h : DataW.Trod enc Try.prog W base spare held 28 v d p) :
    ∃ a : Ag, v = .agg #[.int .u64 a.c, .bool a.o, .int .i64 (hi a.s), .int .u64 (lo a.s), .int .i64 a.mn, .int .i64 a.mx] ∧ AgOk a := by
  obtain ⟨cs, rfl, hsz⟩ := okWide_struct Try.underlying28 hv
  obtain ⟨c0, c1, c2, c3, c4, c5, rfl⟩ := array6 (hsz.trans cellsA)
  obtain ⟨fuel, hf⟩ := h
  obtain ⟨xs, n, _, _, _, hlen, hfs⟩ := DataW.trod_struct Try.underlying28 hf
  obtain ⟨y0, g0⟩ := some_of_len (i := 0) hlen (by decide)
  obtain ⟨y1, g1⟩ := some_of_len (i := 1) hlen (by decide)
  obtain ⟨y2, g2⟩ := some_of_len (i := 2) hlen (by decide)
  obtain ⟨y3, g3⟩ := some_of_len (i := 3) hlen (by decide)
  obtain ⟨y4, g4⟩ := some_of_len (i := 4) hlen (by decide)
  have e0 := (hfs 0 _ rfl).trans g0
  have e1 := (hfs 1 _ rfl).trans g1
  have e2 := (hfs 2 _ rfl).trans g2
  have e3 := (hfs 3 _ rfl).trans g3
  have e4 := (hfs 4 _ rfl).trans g4
  simp [cellsU64, Value.cells] at e0
  simp [cellsBool, Value.cells] at e1
  simp [cellsWd, Value.cells] at e2
  simp [cells64, Value.cells] at e3
  simp [cells64, Value.cells] at e4
  obtain ⟨a0, q0, _, w0⟩ := DataW.trod_int Try.underlying24 e0
  obtain ⟨a1, q1, _⟩ := DataW.trod_bool Try.underlying4 e1
  obtain ⟨a3, q3, _, w3⟩ := DataW.trod_int Try.underlying2 e3
  obtain ⟨a4, q4, _, w4⟩ := DataW.trod_int Try.underlying2 e4
  obtain ⟨z0, z1, m, _, _, f0, f1⟩ := trod_struct2 Try.underlying26 e2
  simp [cells64] at f0
  simp [cellsU64] at f1
  obtain ⟨s0, t0, _, u0⟩ := DataW.trod_int Try.underlying2 f0
  obtain ⟨s1, t1, _, u1⟩ := DataW.trod_int Try.underlying24 f1
  simp at q0 q1 q3 q4 t0 t1
  subst q0 q1 q3 q4 t0 t1
  have b0 := bounds_u64 w0
  have b3 := bounds_i64 w3
  have b4 := bounds_i64 w4
  have d0 := bounds_i64 u0
  have d1 := bounds_u64 u1
  obtain ⟨x, x1, x2, rfl, rfl⟩ := of_halves s0 s1 (by omega) (by omega) (by omega) (by omega)
  exact ⟨⟨a0, a1, x, a3, a4⟩, rfl, b0.1, (by have := b0.2; show a0 < _; omega), b3.1, b3.2, b4.1, b4.2, x1, x2⟩
end Go.Proofs.Ythnhhdacfmikmaa
