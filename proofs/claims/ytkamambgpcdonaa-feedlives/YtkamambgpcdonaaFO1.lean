/- Ops, and whole numbers, as arguments (written by mkfo1.py out of PK1). -/
import Derived.Test.YtkamambgpcdonaaPK0
import Derived.Deep.Slices
import Derived.Deep.MidRow
import Derived.ProofKit
import Derived.OpenShut
import Derived.Lib.SmallJoins
namespace Go.Proofs.Ytkamambgpcdonaa
open Go.ChangeShapes Go.WideShapes Go.ChangeAt Go.RowKit Go.Joins

/-- A call: its kind, its number, whether it is urgent. -/
structure Fop where
  k : Int
  v : Int
  u : Bool
/-- Its numbers are int's. -/
structure FopOk (r : Fop) : Prop where
  k1 : -9223372036854775808 ≤ r.k
  k2 : r.k ≤ 9223372036854775807
  v1 : -9223372036854775808 ≤ r.v
  v2 : r.v ≤ 9223372036854775807
def o3 (r : Fop) : List Value := [.int .i64 r.k, .int .i64 r.v, .bool r.u]
theorem o3_len (r : Fop) : (o3 r).length = 3 := rfl
theorem cell_row {w : World} {b : Nat} {cs : Array Value} {T : TypeId} (h : w.heap[b]? = some (.cells cs T)) (i : Nat) (hi : i < cs.size) : w.cell? ⟨b, i, none⟩ = some cs[i] ∧ w.frozen? ⟨b, i, none⟩ = false := by
  refine ⟨by simp [World.cell?, h, hi], by simp [World.frozen?, h]⟩
/-- A slice value reads these runs. -/
def OReads (w : World) (v : Value) (L : List Fop) : Prop :=
  ∃ a cap, v = .slice a L.length cap ∧ L.length ≤ cap ∧ cap ≤ maxLen ∧ (∀ r ∈ L, FopOk r) ∧ (L = [] ∨ ∃ b off, a = some ⟨b, off, none⟩ ∧ b < w.heap.size ∧ ∀ j (hj : j < L.length) i (hi : i < 3), w.cell? ⟨b, off + j * 3 + i, none⟩ = some ((o3 L[j])[i]'hi))
theorem OReads.below {w w' : World} {v : Value} {L : List Fop} (h : OReads w v L) (hb : Below w.heap.size w w') : OReads w' v L := by
  obtain ⟨a, cap, rfl, h1, h2, hk, h3⟩ := h
  refine ⟨a, cap, rfl, h1, h2, hk, ?_⟩
  rcases h3 with h3 | ⟨b, off, h4, h5, h6⟩
  · exact .inl h3
  · exact .inr ⟨b, off, h4, Nat.lt_of_lt_of_le h5 hb.size, fun j hj i hi => (hb.cell (p := ⟨b, off + j * 3 + i, none⟩) h5).trans (h6 j hj i hi)⟩
theorem OReads.form {w : World} {v : Value} {L : List Fop} (h : OReads w v L) : ∃ a cap, v = .slice a L.length cap ∧ L.length ≤ cap ∧ cap ≤ maxLen := by
  obtain ⟨a, cap, rfl, h1, h2, _⟩ := h
  exact ⟨a, cap, rfl, h1, h2⟩
theorem OReads.ok {w : World} {v : Value} {L : List Fop} (h : OReads w v L) : ∀ r ∈ L, FopOk r := by
  obtain ⟨a, cap, rfl, h1, h2, hk, _⟩ := h
  exact hk
theorem OReads.ptr {w : World} {a : Option Addr} {n cap : Nat} {L : List Fop} (h : OReads w (.slice a n cap) L) (h0 : 0 < L.length) : ∃ b off, a = some ⟨b, off, none⟩ ∧ b < w.heap.size := by
  obtain ⟨a', cap', hv, h1, h2, _, h3⟩ := h
  simp at hv
  obtain ⟨rfl, rfl, rfl⟩ := hv
  rcases h3 with rfl | ⟨b, off, rfl, h5, h6⟩
  · simp at h0
  · exact ⟨b, off, rfl, h5⟩
theorem OReads.at {w : World} {b off n cap : Nat} {L : List Fop} (h : OReads w (.slice (some ⟨b, off, none⟩) n cap) L) {j : Nat} (hj : j < L.length) : ∀ i (hi : i < 3), w.cell? ⟨b, off + j * 3 + i, none⟩ = some ((o3 L[j])[i]'hi) := by
  obtain ⟨a', cap', hv, h1, h2, _, h3⟩ := h
  simp at hv
  obtain ⟨rfl, rfl, rfl⟩ := hv
  rcases h3 with rfl | ⟨b, off, e, h5, h6⟩
  · simp at hj
  · simp at e
    obtain ⟨rfl, rfl⟩ := e
    exact h6 j hj
/-- The three cells of an op, one by one. -/
theorem OReads.three {w : World} {b off n cap : Nat} {L : List Fop} (h : OReads w (.slice (some ⟨b, off, none⟩) n cap) L) {j : Nat} (hj : j < L.length) (r : Fop) (hr : r = L[j]) :
    w.cell? ⟨b, off + j * 3, none⟩ = some (.int .i64 r.k) ∧ w.cell? ⟨b, off + j * 3 + 1, none⟩ = some (.int .i64 r.v) ∧ w.cell? ⟨b, off + j * 3 + 2, none⟩ = some (.bool r.u) := by
  subst hr
  have h' := h.at hj
  exact ⟨h' 0 (by decide), h' 1 (by decide), h' 2 (by decide)⟩
theorem OReads.nil (w : World) : OReads w (.slice none 0 0) [] := ⟨none, 0, rfl, by simp, by simp, by simp, .inl rfl⟩
theorem cell_block {w : World} {a : Addr} {v : Value} (h : w.cell? a = some v) : a.block < w.heap.size ∧ a.spot = none := by
  unfold World.cell? at h
  rcases Nat.lt_or_ge a.block w.heap.size with hb | hb
  · refine ⟨hb, ?_⟩
    split at h
    · split at h
      · cases h
      · rename_i hs; cases hsp : a.spot with
        | none => rfl
        | some s => rw [hsp] at hs; simp at hs
    · cases h
  · rw [Array.getElem?_eq_none hb] at h; cases h
theorem cellsInt : Try.prog.cellsOf 3 = 1 := by kernel_rfl
theorem cellsBool : Try.prog.cellsOf 4 = 1 := by kernel_rfl
theorem some_of_len {α : Type} {xs : List α} {n i : Nat} (h : xs.length = n) (hi : i < n) : ∃ y, xs[i]? = some y := ⟨xs[i], by rw [List.getElem?_eq_getElem (by omega)]⟩
theorem three_of {α : Type} : ∀ {l : List α}, l.length = 3 → ∃ c0 c1 c2, l = [c0, c1, c2]
  | [c0, c1, c2], _ => ⟨c0, c1, c2, rfl⟩
set_option maxRecDepth 100000 in
/-- The three cells of an op. -/
theorem openO' {H : Type} {enc : TypeId × Value → H} {W : World} {base : Nat} {spare : Nat → Bool} {held : Bool} {c0 c1 c2 : Value} {x : DataW H × List MemPlace} {fuel : Nat}
    (hf : DataW.trod enc Try.prog W base spare held fuel 31 [c0, c1, c2] = some x) : ∃ r : Fop, [c0, c1, c2] = o3 r ∧ FopOk r := by
  obtain ⟨xs, n, _, _, _, hlen, hfs⟩ := DataW.trod_struct Try.underlying31 hf
  obtain ⟨y0, g0⟩ := some_of_len (i := 0) hlen (by decide)
  obtain ⟨y1, g1⟩ := some_of_len (i := 1) hlen (by decide)
  obtain ⟨y2, g2⟩ := some_of_len (i := 2) hlen (by decide)
  have e0 := (hfs 0 _ rfl).trans g0
  have e1 := (hfs 1 _ rfl).trans g1
  have e2 := (hfs 2 _ rfl).trans g2
  simp [cellsInt] at e0
  simp [cellsInt] at e1
  simp [cellsBool] at e2
  obtain ⟨a0, q0, _, w0⟩ := DataW.trod_int Try.underlying3 e0
  obtain ⟨a1, q1, _, w1⟩ := DataW.trod_int Try.underlying3 e1
  obtain ⟨a2, q2, _⟩ := DataW.trod_bool Try.underlying4 e2
  simp at q0 q1 q2
  subst q0 q1 q2
  have b0 := bounds_i64 w0
  have b1 := bounds_i64 w1
  exact ⟨⟨a0, a1, a2⟩, rfl, b0.1, b0.2, b1.1, b1.2⟩
set_option maxRecDepth 100000 in
theorem openO {H : Type} {enc : TypeId × Value → H} {W : World} {r : Reach} {b0 base : Nat} {spare : Nat → Bool} {held : Bool} {v : Value} {d : DataW H} {p : List MemPlace}
    (hv : Value.okWide Try.prog W r b0 22 v) (h : DataW.Trod enc Try.prog W base spare held 22 v d p) : ∃ L : List Fop, OReads W v L := by
  obtain ⟨a, len, cap, rfl⟩ := okWide_slice Try.underlying22 hv
  obtain ⟨fuel, hf⟩ := h
  rcases Go.Deep.open_slice Try.underlying22 hf with ⟨hcs, _⟩ | ⟨x, l, c, m, n, D, Pl, hcs, _, hl, hm, hz, _, hcell⟩
  · simp [Value.cells] at hcs
    obtain ⟨rfl, rfl, rfl⟩ := hcs
    exact ⟨[], OReads.nil _⟩
  · simp [Value.cells] at hcs
    obtain ⟨rfl, rfl, rfl⟩ := hcs
    have hzl : len ≤ m := by rw [hz]; split <;> omega
    have hce : Try.prog.cellsOf 31 = 3 := by kernel_rfl
    rw [hce] at hcell
    have hall : ∀ j, ∃ (y : Fop), j < len → FopOk y ∧ ∀ i (hi : i < 3), W.cell? ((x.add (j * 3)).add i) = some ((o3 y)[i]'hi) := by
      intro j
      by_cases hj : j < len
      · obtain ⟨cs', hc1, hc2⟩ := hcell j (by omega)
        obtain ⟨_, hl2, hq⟩ := World.cells?_some hc1
        obtain ⟨c0, c1, c2, rfl⟩ := three_of hl2
        obtain ⟨q, hr, hk⟩ := openO' hc2
        refine ⟨q, fun _ => ⟨hk, fun i hi => ?_⟩⟩
        have h0 := hq i (by simpa using hi)
        rw [h0, hr, List.getElem?_eq_getElem hi]
      · exact ⟨⟨0, 0, false⟩, fun h => absurd h hj⟩
    obtain ⟨ys, hys⟩ := Classical.axiomOfChoice hall
    rcases Nat.eq_zero_or_pos len with h0 | h0
    · subst h0
      exact ⟨[], _, cap, rfl, by simp, hm, by simp, .inl rfl⟩
    · have k0 := (hys 0 h0).2 0 (by decide)
      have e0 : (x.add (0 * 3)).add 0 = x := by simp [Addr.add]
      rw [e0] at k0
      obtain ⟨hb, hs⟩ := cell_block k0
      obtain ⟨b, off, spot⟩ := x
      simp only at hb hs
      subst hs
      refine ⟨(List.range len).map ys, _, cap, by simp, by simpa using hl, hm, ?_, .inr ⟨b, off, rfl, hb, fun j hj i hi => ?_⟩⟩
      · intro r hr
        obtain ⟨j, hj, rfl⟩ := List.mem_map.1 hr
        exact (hys j (by simpa using hj)).1
      · simp at hj
        have g1 := (hys j hj).2 i hi
        have ea : (⟨b, off, none⟩ : Addr).add (j * 3) = ⟨b, off + j * 3, none⟩ := by simp [Addr.add]
        have eb : (⟨b, off + j * 3, none⟩ : Addr).add i = ⟨b, off + j * 3 + i, none⟩ := by simp [Addr.add]
        rw [ea, eb] at g1
        rw [g1]
        congr 2
        simp
set_option maxRecDepth 100000 in
theorem openZ {H : Type} {enc : TypeId × Value → H} {W : World} {r : Reach} {b0 base : Nat} {spare : Nat → Bool} {held : Bool} {v : Value} {d : DataW H} {p : List MemPlace}
    (hv : Value.okWide Try.prog W r b0 38 v) (h : DataW.Trod enc Try.prog W base spare held 38 v d p) : ∃ l : List Int, Reads W v l := by
  obtain ⟨a, len, cap, rfl⟩ := okWide_slice Try.underlying38 hv
  obtain ⟨fuel, hf⟩ := h
  rcases open_ints Try.underlying38 Try.underlying3 (by kernel_rfl) hf with ⟨hcs, _⟩ | ⟨x, l, c, zs, hcs, _, hl, hm, hz, _, hcell, hwz⟩
  · simp [Value.cells] at hcs
    obtain ⟨rfl, rfl, rfl⟩ := hcs
    exact ⟨[], .inl ⟨rfl, _, _, rfl, fun _ => rfl⟩⟩
  · simp [Value.cells] at hcs
    obtain ⟨rfl, rfl, rfl⟩ := hcs
    have hzl : len ≤ zs.length := by rw [hz]; split <;> omega
    rcases Nat.eq_zero_or_pos len with h0 | h0
    · subst h0; exact ⟨[], .inl ⟨rfl, _, _, rfl, fun h => by cases h⟩⟩
    · refine ⟨zs.take len, .inr ?_⟩
      have hlen : (zs.take len).length = len := by simp; omega
      have c0 := hcell 0 (by omega)
      have e0 : x.add 0 = x := by simp [Addr.add]
      rw [e0] at c0
      obtain ⟨hb, hs⟩ := cell_block c0
      obtain ⟨b, off, spot⟩ := x
      simp only at hb hs
      subst hs
      refine ⟨b, off, cap, by rw [hlen], by omega, by omega, hm, hb, fun j hj => ?_⟩
      have cj := hcell j (by omega)
      have ea : (⟨b, off, none⟩ : Addr).add j = ⟨b, off + j, none⟩ := by simp [Addr.add]
      rw [ea] at cj
      rw [cj]
      have hzj : j < zs.length := by omega
      have hg : zs.getD j 0 = zs[j] := by simp [List.getD, hzj]
      rw [hg]
      simp [ic]
end Go.Proofs.Ytkamambgpcdonaa
