/- TA3, joined. -/
import Derived.Test.YtopemhlkjicjpaaTG12
import Derived.Test.YtopemhlkjicjpaaTG19
import Derived.Deep.Slices
import Derived.ProofKit
import Derived.OpenShut
import Derived.Lib.SmallJoins
/- table: entries, opened. -/
namespace Go.Proofs.Ytopemhlkjicjpaa
open Go.ChangeShapes Go.WideShapes Go.ChangeAt Go.RowKit Go.Joins

set_option maxRecDepth 100000 in
theorem openA' {H : Type} {enc : TypeId × Value → H} {W : World} {base : Nat} {spare : Nat → Bool} {held : Bool} {c0 c1 c2 c3 c4 c5 : Value} {x : DataW H × List MemPlace} {fuel : Nat}
    (hf : DataW.trod enc Try.prog W base spare held fuel 34 [c0, c1, c2, c3, c4, c5] = some x) :
    ∃ a : Ag, [c0, c1, c2, c3, c4, c5] = [.int .u64 a.c, .bool a.o, .int .i64 (hi a.s), .int .u64 (lo a.s), .int .i64 a.mn, .int .i64 a.mx] ∧ AgOk a := by
  obtain ⟨xs, n, _, _, _, hlen, hfs⟩ := DataW.trod_struct Try.underlying34 hf
  obtain ⟨y0, g0⟩ := some_of_len (i := 0) hlen (by decide)
  obtain ⟨y1, g1⟩ := some_of_len (i := 1) hlen (by decide)
  obtain ⟨y2, g2⟩ := some_of_len (i := 2) hlen (by decide)
  obtain ⟨y3, g3⟩ := some_of_len (i := 3) hlen (by decide)
  obtain ⟨y4, g4⟩ := some_of_len (i := 4) hlen (by decide)
  have e0 := (hfs 0 _ rfl).trans g0
  have e1 := (hfs 1 _ rfl).trans g1
  have e2 := (hfs 2 _ rfl).trans g2
  have e3 := (hfs 3 _ rfl).trans g3
  have e4 := (hfs 4 _ rfl).trans g4
  simp [cellsU64] at e0
  simp [cellsBool] at e1
  simp [cellsWd] at e2
  simp [cells64] at e3
  simp [cells64] at e4
  obtain ⟨a0, q0, _, w0⟩ := DataW.trod_int Try.underlying30 e0
  obtain ⟨a1, q1, _⟩ := DataW.trod_bool Try.underlying4 e1
  obtain ⟨a3, q3, _, w3⟩ := DataW.trod_int Try.underlying2 e3
  obtain ⟨a4, q4, _, w4⟩ := DataW.trod_int Try.underlying2 e4
  obtain ⟨z0, z1, m, _, _, f0, f1⟩ := trod_struct2 Try.underlying32 e2
  simp [cells64] at f0
  simp [cellsU64] at f1
  obtain ⟨s0, t0, _, u0⟩ := DataW.trod_int Try.underlying2 f0
  obtain ⟨s1, t1, _, u1⟩ := DataW.trod_int Try.underlying30 f1
  simp at q0 q1 q3 q4 t0 t1
  subst q0 q1 q3 q4 t0 t1
  have b0 := bounds_u64 w0
  have b3 := bounds_i64 w3
  have b4 := bounds_i64 w4
  have d0 := bounds_i64 u0
  have d1 := bounds_u64 u1
  obtain ⟨sx, x1, x2, rfl, rfl⟩ := of_halves s0 s1 (by omega) (by omega) (by omega) (by omega)
  exact ⟨⟨a0, a1, sx, a3, a4⟩, rfl, b0.1, (by have := b0.2; show a0 < _; omega), b3.1, b3.2, b4.1, b4.2, x1, x2⟩
theorem seven_of {α : Type} : ∀ {l : List α}, l.length = 7 → ∃ c0 c1 c2 c3 c4 c5 c6, l = [c0, c1, c2, c3, c4, c5, c6]
  | [c0, c1, c2, c3, c4, c5, c6], _ => ⟨c0, c1, c2, c3, c4, c5, c6, rfl⟩
set_option maxRecDepth 100000 in
theorem openT' {H : Type} {enc : TypeId × Value → H} {W : World} {base : Nat} {spare : Nat → Bool} {held : Bool} {c0 c1 c2 c3 c4 c5 c6 : Value} {x : DataW H × List MemPlace} {fuel : Nat}
    (hf : DataW.trod enc Try.prog W base spare held fuel 36 [c0, c1, c2, c3, c4, c5, c6] = some x) :
    ∃ (kv : Value) (k : List UInt8) (a : Ag), [c0, c1, c2, c3, c4, c5, c6] = e7 kv a ∧ Reads W kv k ∧ AgOk a := by
  obtain ⟨z0, z1, m, _, _, f0, f1⟩ := trod_struct2 Try.underlying36 hf
  have ck : Try.prog.cellsOf 23 = 1 := by kernel_rfl
  simp [ck] at f0
  simp [cellsA] at f1
  obtain ⟨kv, k, e0, hr⟩ := openB' f0
  obtain ⟨a, e1, ha⟩ := openA' f1
  simp at e0
  subst e0
  refine ⟨c0, k, a, ?_, hr, ha⟩
  rw [e1]; rfl
set_option maxRecDepth 100000 in
theorem openTe {H : Type} {enc : TypeId × Value → H} {W : World} {r : Reach} {b0 base : Nat} {spare : Nat → Bool} {held : Bool} {v : Value} {d : DataW H} {p : List MemPlace}
    (hv : Value.okWide Try.prog W r b0 22 v) (h : DataW.Trod enc Try.prog W base spare held 22 v d p) : ∃ L : List Et, TRd W v L := by
  obtain ⟨a, len, cap, rfl⟩ := okWide_slice Try.underlying22 hv
  obtain ⟨fuel, hf⟩ := h
  rcases Go.Deep.open_slice Try.underlying22 hf with ⟨hcs, _⟩ | ⟨x, l, c, m, n, D, Pl, hcs, _, hl, hm, hz, _, hcell⟩
  · simp [Value.cells] at hcs
    obtain ⟨rfl, rfl, rfl⟩ := hcs
    exact ⟨[], none, 0, rfl, by simp, by simp, fun j hj => by simp at hj⟩
  · simp [Value.cells] at hcs
    obtain ⟨rfl, rfl, rfl⟩ := hcs
    have hzl : len ≤ m := by rw [hz]; split <;> omega
    have hce : Try.prog.cellsOf 36 = 7 := by kernel_rfl
    rw [hce] at hcell
    have hall : ∀ j, ∃ (y : Value × Et), j < len → (∀ i (hi : i < 7), W.cell? ((x.add (j * 7)).add i) = some ((e7 y.1 y.2.2)[i]'hi)) ∧ Reads W y.1 y.2.1 ∧ AgOk y.2.2 := by
      intro j
      by_cases hj : j < len
      · obtain ⟨cs', hc1, hc2⟩ := hcell j (by omega)
        obtain ⟨_, hl7, hq⟩ := World.cells?_some hc1
        obtain ⟨c0, c1, c2, c3, c4, c5, c6, rfl⟩ := seven_of hl7
        obtain ⟨kv, k, a, e, hr, ha⟩ := openT' hc2
        refine ⟨(kv, k, a), fun _ => ⟨fun i hi => ?_, hr, ha⟩⟩
        have h1 := hq i hi
        rw [e, List.getElem?_eq_getElem (show i < (e7 kv a).length from hi)] at h1
        exact h1
      · exact ⟨(.bool false, [], aZ), fun h => absurd h hj⟩
    obtain ⟨ys, hys⟩ := Classical.axiomOfChoice hall
    refine ⟨(List.range len).map fun j => (ys j).2, some x, cap, by simp, by simp; omega, by omega, fun j hj => ?_⟩
    simp at hj
    obtain ⟨g1, g2, g3⟩ := hys j hj
    have e : ((List.range len).map fun j => (ys j).2)[j]'(by simpa using hj) = (ys j).2 := by simp
    rw [e]
    obtain ⟨b, off, spot⟩ := x
    have hs : spot = none := by
      cases spot with
      | none => rfl
      | some z =>
        exfalso
        obtain ⟨k0, _⟩ := hys 0 (by omega)
        have k1 := k0 0 (by decide)
        have e0 : ((⟨b, off, some z⟩ : Addr).add (0 * 7)).add 0 = ⟨b, off, some z⟩ := by simp [Addr.add]
        rw [e0] at k1
        have := (cell_block k1).2
        simp at this
    subst hs
    have ea : (⟨b, off, none⟩ : Addr).add (j * 7) = ⟨b, off + j * 7, none⟩ := by simp [Addr.add]
    have eb : ∀ i, (⟨b, off + j * 7, none⟩ : Addr).add i = ⟨b, off + j * 7 + i, none⟩ := fun i => by simp [Addr.add]
    have hb : b < W.heap.size := by
      have := g1 0 (by decide)
      rw [ea, eb] at this
      exact (cell_block this).1
    refine ⟨b, off, (ys j).1, rfl, hb, fun i hi => ?_, g2, g3⟩
    have := g1 i hi
    rwa [ea, eb] at this
end Go.Proofs.Ytopemhlkjicjpaa
