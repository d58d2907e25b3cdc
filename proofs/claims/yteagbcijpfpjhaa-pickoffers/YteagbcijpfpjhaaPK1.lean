/- Runs in memory: those that a slice reads, and those of one's own. -/
import Derived.Test.YteagbcijpfpjhaaPK0
import Derived.Deep.Slices
import Derived.Deep.MidRow
import Derived.ProofKit
import Derived.OpenShut
import Derived.Lib.SmallJoins
namespace Go.Proofs.Yteagbcijpfpjhaa
open Go.ChangeShapes Go.WideShapes Go.ChangeAt Go.RowKit Go.Joins

/-- A run: its file, its level, its count, whether it is stale. -/
structure Rn where
  f : Int
  l : Int
  c : Int
  s : Bool
/-- Its numbers are int's. -/
structure RnOk (r : Rn) : Prop where
  f1 : -9223372036854775808 ≤ r.f
  f2 : r.f ≤ 9223372036854775807
  l1 : -9223372036854775808 ≤ r.l
  l2 : r.l ≤ 9223372036854775807
  c1 : -9223372036854775808 ≤ r.c
  c2 : r.c ≤ 9223372036854775807
def r4 (r : Rn) : List Value := [.int .i64 r.f, .int .i64 r.l, .int .i64 r.c, .bool r.s]
theorem r4_len (r : Rn) : (r4 r).length = 4 := rfl
theorem cell_row {w : World} {b : Nat} {cs : Array Value} {T : TypeId} (h : w.heap[b]? = some (.cells cs T)) (i : Nat) (hi : i < cs.size) : w.cell? ⟨b, i, none⟩ = some cs[i] ∧ w.frozen? ⟨b, i, none⟩ = false := by
  refine ⟨by simp [World.cell?, h, hi], by simp [World.frozen?, h]⟩
/-- A slice value reads these runs. -/
def NReads (w : World) (v : Value) (L : List Rn) : Prop :=
  ∃ a cap, v = .slice a L.length cap ∧ L.length ≤ cap ∧ cap ≤ maxLen ∧ (∀ r ∈ L, RnOk r) ∧ (L = [] ∨ ∃ b off, a = some ⟨b, off, none⟩ ∧ b < w.heap.size ∧ ∀ j (hj : j < L.length) i (hi : i < 4), w.cell? ⟨b, off + j * 4 + i, none⟩ = some ((r4 L[j])[i]'hi))
theorem NReads.below {w w' : World} {v : Value} {L : List Rn} (h : NReads w v L) (hb : Below w.heap.size w w') : NReads w' v L := by
  obtain ⟨a, cap, rfl, h1, h2, hk, h3⟩ := h
  refine ⟨a, cap, rfl, h1, h2, hk, ?_⟩
  rcases h3 with h3 | ⟨b, off, h4, h5, h6⟩
  · exact .inl h3
  · exact .inr ⟨b, off, h4, Nat.lt_of_lt_of_le h5 hb.size, fun j hj i hi => (hb.cell (p := ⟨b, off + j * 4 + i, none⟩) h5).trans (h6 j hj i hi)⟩
theorem NReads.form {w : World} {v : Value} {L : List Rn} (h : NReads w v L) : ∃ a cap, v = .slice a L.length cap ∧ L.length ≤ cap ∧ cap ≤ maxLen := by
  obtain ⟨a, cap, rfl, h1, h2, _⟩ := h
  exact ⟨a, cap, rfl, h1, h2⟩
theorem NReads.ok {w : World} {v : Value} {L : List Rn} (h : NReads w v L) : ∀ r ∈ L, RnOk r := by
  obtain ⟨a, cap, rfl, h1, h2, hk, _⟩ := h
  exact hk
theorem NReads.ptr {w : World} {a : Option Addr} {n cap : Nat} {L : List Rn} (h : NReads w (.slice a n cap) L) (h0 : 0 < L.length) : ∃ b off, a = some ⟨b, off, none⟩ ∧ b < w.heap.size := by
  obtain ⟨a', cap', hv, h1, h2, _, h3⟩ := h
  simp at hv
  obtain ⟨rfl, rfl, rfl⟩ := hv
  rcases h3 with rfl | ⟨b, off, rfl, h5, h6⟩
  · simp at h0
  · exact ⟨b, off, rfl, h5⟩
theorem NReads.at {w : World} {b off n cap : Nat} {L : List Rn} (h : NReads w (.slice (some ⟨b, off, none⟩) n cap) L) {j : Nat} (hj : j < L.length) : ∀ i (hi : i < 4), w.cell? ⟨b, off + j * 4 + i, none⟩ = some ((r4 L[j])[i]'hi) := by
  obtain ⟨a', cap', hv, h1, h2, _, h3⟩ := h
  simp at hv
  obtain ⟨rfl, rfl, rfl⟩ := hv
  rcases h3 with rfl | ⟨b, off, e, h5, h6⟩
  · simp at hj
  · simp at e
    obtain ⟨rfl, rfl⟩ := e
    exact h6 j hj
/-- The four cells of a run, one by one. -/
theorem NReads.four {w : World} {b off n cap : Nat} {L : List Rn} (h : NReads w (.slice (some ⟨b, off, none⟩) n cap) L) {j : Nat} (hj : j < L.length) (r : Rn) (hr : r = L[j]) :
    w.cell? ⟨b, off + j * 4, none⟩ = some (.int .i64 r.f) ∧ w.cell? ⟨b, off + j * 4 + 1, none⟩ = some (.int .i64 r.l) ∧ w.cell? ⟨b, off + j * 4 + 2, none⟩ = some (.int .i64 r.c) ∧ w.cell? ⟨b, off + j * 4 + 3, none⟩ = some (.bool r.s) := by
  subst hr
  have h' := h.at hj
  exact ⟨h' 0 (by decide), h' 1 (by decide), h' 2 (by decide), h' 3 (by decide)⟩
theorem NReads.nil (w : World) : NReads w (.slice none 0 0) [] := ⟨none, 0, rfl, by simp, by simp, by simp, .inl rfl⟩
/-- A slice of runs of one's own (T: of which kind). -/
def NOwn (T : TypeId) (W : World) (base : Nat) (v : Value) (xs : List Rn) : Prop := W.ownsRow base T 4 v xs.length (xs.flatMap r4) ∧ ∀ r ∈ xs, RnOk r
theorem flat4 : ∀ (xs : List Rn) (j i : Nat) (hj : j < xs.length), i < 4 → (xs.flatMap r4)[4 * j + i]? = (r4 xs[j])[i]?
  | [], j, i, hj, _ => by simp at hj
  | x :: xs, 0, i, _, hi => by
    rw [List.flatMap_cons, List.getElem?_append_left (by rw [r4_len]; omega)]; simp
  | x :: xs, j + 1, i, hj, hi => by
    rw [List.flatMap_cons, List.getElem?_append_right (by rw [r4_len]; omega), r4_len, show 4 * (j + 1) + i - 4 = 4 * j + i by omega]
    exact flat4 xs j i (by simpa using hj) hi
theorem NOwn.reads {T : TypeId} {w : World} {base : Nat} {v : Value} {xs : List Rn} (h : NOwn T w base v xs) : NReads w v xs := by
  have hlt := World.ownsRow.lt h.1
  rcases h.1.2 with ⟨h1, h2⟩ | ⟨g, cap, cur, hv, hg, hw, hc, hm, _⟩
  · have : xs = [] := List.length_eq_zero_iff.1 h2
    subst this
    rw [h1]; exact NReads.nil _
  · have hr := h.1
    rw [hv] at hr
    refine ⟨_, cap, hv, hc, hm, h.2, .inr ⟨g, 0, rfl, (hlt g (by rw [hv]; rfl)).2, fun j hj i hi => ?_⟩⟩
    rw [show 0 + j * 4 + i = 4 * j + i by omega, World.ownsRow.cellAt hr _ (by omega), flat4 xs j i hj hi, List.getElem?_eq_getElem hi]
theorem NOwn.nil (T : TypeId) (w : World) (base : Nat) : NOwn T w base (.slice none 0 0) [] := ⟨World.ownsRow_nil _ _ _ _, by simp⟩
theorem NOwn.below {T : TypeId} {w w' : World} {base : Nat} {v : Value} {xs : List Rn} (h : NOwn T w base v xs) (hb : Below w.heap.size w w') : NOwn T w' base v xs := by
  have hlt := World.ownsRow.lt h.1
  obtain ⟨⟨h1, h2⟩, hk⟩ := h
  refine ⟨⟨h1, ?_⟩, hk⟩
  rcases h2 with h2 | ⟨g, cap, cur, hv, hg, hw, r⟩
  · exact .inl h2
  · exact .inr ⟨g, cap, cur, hv, hg, (hb.block g (hlt g (by rw [hv]; rfl)).2).trans hw, r⟩
theorem NOwn.mono {T : TypeId} {w : World} {base base' : Nat} {v : Value} {xs : List Rn} (h : NOwn T w base v xs) (hb : base' ≤ base) : NOwn T w base' v xs := ⟨own_mono h.1 hb, h.2⟩
theorem cell_block {w : World} {a : Addr} {v : Value} (h : w.cell? a = some v) : a.block < w.heap.size ∧ a.spot = none := by
  unfold World.cell? at h
  rcases Nat.lt_or_ge a.block w.heap.size with hb | hb
  · refine ⟨hb, ?_⟩
    split at h
    · split at h
      · cases h
      · rename_i hs; cases hsp : a.spot with
        | none => rfl
        | some s => rw [hsp] at hs; simp at hs
    · cases h
  · rw [Array.getElem?_eq_none hb] at h; cases h
theorem cellsInt : Try.prog.cellsOf 3 = 1 := by kernel_rfl
theorem cellsBool : Try.prog.cellsOf 4 = 1 := by kernel_rfl
theorem some_of_len {α : Type} {xs : List α} {n i : Nat} (h : xs.length = n) (hi : i < n) : ∃ y, xs[i]? = some y := ⟨xs[i], by rw [List.getElem?_eq_getElem (by omega)]⟩
theorem four_of {α : Type} : ∀ {l : List α}, l.length = 4 → ∃ c0 c1 c2 c3, l = [c0, c1, c2, c3]
  | [c0, c1, c2, c3], _ => ⟨c0, c1, c2, c3, rfl⟩
set_option maxRecDepth 100000 in
/-- The four cells of a run. -/
theorem openN' {H : Type} {enc : TypeId × Value → H} {W : World} {base : Nat} {spare : Nat → Bool} {held : Bool} {c0 c1 c2 c3 : Value} {x : DataW H × List MemPlace} {fuel : Nat}
    (hf : DataW.trod enc Try.prog W base spare held fuel 48 [c0, c1, c2, c3] = some x) : ∃ r : Rn, [c0, c1, c2, c3] = r4 r ∧ RnOk r := by
  obtain ⟨xs, n, _, _, _, hlen, hfs⟩ := DataW.trod_struct Try.underlying48 hf
  obtain ⟨y0, g0⟩ := some_of_len (i := 0) hlen (by decide)
  obtain ⟨y1, g1⟩ := some_of_len (i := 1) hlen (by decide)
  obtain ⟨y2, g2⟩ := some_of_len (i := 2) hlen (by decide)
  obtain ⟨y3, g3⟩ := some_of_len (i := 3) hlen (by decide)
  have e0 := (hfs 0 _ rfl).trans g0
  have e1 := (hfs 1 _ rfl).trans g1
  have e2 := (hfs 2 _ rfl).trans g2
  have e3 := (hfs 3 _ rfl).trans g3
  simp [cellsInt] at e0
  simp [cellsInt] at e1
  simp [cellsInt] at e2
  simp [cellsBool] at e3
  obtain ⟨a0, q0, _, w0⟩ := DataW.trod_int Try.underlying3 e0
  obtain ⟨a1, q1, _, w1⟩ := DataW.trod_int Try.underlying3 e1
  obtain ⟨a2, q2, _, w2⟩ := DataW.trod_int Try.underlying3 e2
  obtain ⟨a3, q3, _⟩ := DataW.trod_bool Try.underlying4 e3
  simp at q0 q1 q2 q3
  subst q0 q1 q2 q3
  have b0 := bounds_i64 w0
  have b1 := bounds_i64 w1
  have b2 := bounds_i64 w2
  exact ⟨⟨a0, a1, a2, a3⟩, rfl, b0.1, b0.2, b1.1, b1.2, b2.1, b2.2⟩
set_option maxRecDepth 100000 in
theorem openN {H : Type} {enc : TypeId × Value → H} {W : World} {r : Reach} {b0 base : Nat} {spare : Nat → Bool} {held : Bool} {v : Value} {d : DataW H} {p : List MemPlace}
    (hv : Value.okWide Try.prog W r b0 22 v) (h : DataW.Trod enc Try.prog W base spare held 22 v d p) : ∃ L : List Rn, NReads W v L := by
  obtain ⟨a, len, cap, rfl⟩ := okWide_slice Try.underlying22 hv
  obtain ⟨fuel, hf⟩ := h
  rcases Go.Deep.open_slice Try.underlying22 hf with ⟨hcs, _⟩ | ⟨x, l, c, m, n, D, Pl, hcs, _, hl, hm, hz, _, hcell⟩
  · simp [Value.cells] at hcs
    obtain ⟨rfl, rfl, rfl⟩ := hcs
    exact ⟨[], NReads.nil _⟩
  · simp [Value.cells] at hcs
    obtain ⟨rfl, rfl, rfl⟩ := hcs
    have hzl : len ≤ m := by rw [hz]; split <;> omega
    have hce : Try.prog.cellsOf 48 = 4 := by kernel_rfl
    rw [hce] at hcell
    have hall : ∀ j, ∃ (y : Rn), j < len → RnOk y ∧ ∀ i (hi : i < 4), W.cell? ((x.add (j * 4)).add i) = some ((r4 y)[i]'hi) := by
      intro j
      by_cases hj : j < len
      · obtain ⟨cs', hc1, hc2⟩ := hcell j (by omega)
        obtain ⟨_, hl2, hq⟩ := World.cells?_some hc1
        obtain ⟨c0, c1, c2, c3, rfl⟩ := four_of hl2
        obtain ⟨q, hr, hk⟩ := openN' hc2
        refine ⟨q, fun _ => ⟨hk, fun i hi => ?_⟩⟩
        have h0 := hq i (by simpa using hi)
        rw [h0, hr, List.getElem?_eq_getElem hi]
      · exact ⟨⟨0, 0, 0, false⟩, fun h => absurd h hj⟩
    obtain ⟨ys, hys⟩ := Classical.axiomOfChoice hall
    rcases Nat.eq_zero_or_pos len with h0 | h0
    · subst h0
      exact ⟨[], _, cap, rfl, by simp, hm, by simp, .inl rfl⟩
    · have k0 := (hys 0 h0).2 0 (by decide)
      have e0 : (x.add (0 * 4)).add 0 = x := by simp [Addr.add]
      rw [e0] at k0
      obtain ⟨hb, hs⟩ := cell_block k0
      obtain ⟨b, off, spot⟩ := x
      simp only at hb hs
      subst hs
      refine ⟨(List.range len).map ys, _, cap, by simp, by simpa using hl, hm, ?_, .inr ⟨b, off, rfl, hb, fun j hj i hi => ?_⟩⟩
      · intro r hr
        obtain ⟨j, hj, rfl⟩ := List.mem_map.1 hr
        exact (hys j (by simpa using hj)).1
      · simp at hj
        have g1 := (hys j hj).2 i hi
        have ea : (⟨b, off, none⟩ : Addr).add (j * 4) = ⟨b, off + j * 4, none⟩ := by simp [Addr.add]
        have eb : (⟨b, off + j * 4, none⟩ : Addr).add i = ⟨b, off + j * 4 + i, none⟩ := by simp [Addr.add]
        rw [ea, eb] at g1
        rw [g1]
        congr 2
        simp
end Go.Proofs.Yteagbcijpfpjhaa
