/- Pairs of a key and a value, as arguments. -/
import Derived.Test.YtfgggfddehgigaaBK1
import Derived.Test.YtfgggfddehgigaaOB
import Derived.Deep.Slices
import Derived.ProofKit
import Derived.OpenShut
import Derived.Lib.SmallJoins
namespace Go.Proofs.Ytfgggfddehgigaa
open Go.ChangeShapes Go.WideShapes Go.ChangeAt Go.RowKit Go.Joins

set_option maxRecDepth 100000 in
theorem openB' {H : Type} {enc : TypeId × Value → H} {W : World} {base : Nat} {spare : Nat → Bool} {held : Bool} {cs : List Value} {x : DataW H × List MemPlace} {fuel : Nat}
    (hf : DataW.trod enc Try.prog W base spare held fuel 23 cs = some x) : ∃ v l, cs = [v] ∧ Reads W v l := by
  rcases open_ints Try.underlying23 Try.underlying5 (by kernel_rfl) hf with ⟨rfl, _⟩ | ⟨x, len, cap, zs, rfl, _, hl, hm, hz, _, hcell, hwz⟩
  · exact ⟨_, [], rfl, .inl ⟨rfl, _, _, rfl, fun _ => rfl⟩⟩
  · have hzl : len ≤ zs.length := by rw [hz]; split <;> omega
    rcases Nat.eq_zero_or_pos len with h0 | h0
    · subst h0; exact ⟨_, [], rfl, .inl ⟨rfl, _, _, rfl, fun h => by cases h⟩⟩
    · refine ⟨_, (zs.take len).map fun z => UInt8.ofNat z.toNat, rfl, .inr ?_⟩
      have hlen : ((zs.take len).map fun z => UInt8.ofNat z.toNat).length = len := by simp; omega
      have c0 := hcell 0 (by omega)
      have e0 : x.add 0 = x := by simp [Addr.add]
      rw [e0] at c0
      obtain ⟨hb, hs⟩ := cell_block c0
      obtain ⟨b, off, spot⟩ := x
      simp only at hb hs
      subst hs
      refine ⟨b, off, cap, by rw [hlen], by omega, by omega, hm, hb, fun j hj => ?_⟩
      have hj' : j < len := by omega
      have cj := hcell j (by omega)
      have ea : (⟨b, off, none⟩ : Addr).add j = ⟨b, off + j, none⟩ := by simp [Addr.add]
      rw [ea] at cj
      rw [cj]
      have hzj : j < zs.length := by omega
      have hg : zs.getD j 0 = zs[j] := by simp [List.getD, hzj]
      have hw := bounds_u8 (hwz zs[j] (List.getElem_mem hzj))
      rw [hg]
      have e1 : ((zs.take len).map fun z => UInt8.ofNat z.toNat)[j] = UInt8.ofNat (zs[j]).toNat := by simp
      rw [e1]
      unfold bc
      have e2 : (UInt8.ofNat (zs[j]).toNat).toNat = (zs[j]).toNat := by simp [UInt8.toNat_ofNat']; omega
      rw [e2]
      congr 2
      omega
theorem two_cells {α : Type} : ∀ {l : List α}, l.length = 2 → ∃ c0 c1, l = [c0, c1]
  | [c0, c1], _ => ⟨c0, c1, rfl⟩
set_option maxRecDepth 100000 in
/-- The two cells of a pair. -/
theorem openP' {H : Type} {enc : TypeId × Value → H} {W : World} {base : Nat} {spare : Nat → Bool} {held : Bool} {c0 c1 : Value} {x : DataW H × List MemPlace} {fuel : Nat}
    (hf : DataW.trod enc Try.prog W base spare held fuel 38 [c0, c1] = some x) :
    ∃ p : Pr, Reads W c0 p.1 ∧ Reads W c1 p.2 := by
  obtain ⟨z0, z1, m, _, _, f0, f1⟩ := trod_struct2 Try.underlying38 hf
  have ck : Try.prog.cellsOf 23 = 1 := by kernel_rfl
  simp [ck] at f0
  simp [ck] at f1
  obtain ⟨kv, k, e0, hr⟩ := openB' f0
  obtain ⟨vv, v, e1, hv⟩ := openB' f1
  simp at e0 e1
  subst e0 e1
  exact ⟨(k, v), hr, hv⟩
/-- A slice reads these pairs (of either kind). -/
def PReads (w : World) (v : Value) (L : List Pr) : Prop :=
  ∃ a cap, v = .slice a L.length cap ∧ L.length ≤ cap ∧ cap ≤ maxLen ∧ (L = [] ∨ ∃ b off, a = some ⟨b, off, none⟩ ∧ b < w.heap.size ∧ ∀ j (hj : j < L.length), ∃ kv vv, w.cell? ⟨b, off + j * 2, none⟩ = some kv ∧ w.cell? ⟨b, off + j * 2 + 1, none⟩ = some vv ∧ Reads w kv L[j].1 ∧ Reads w vv L[j].2)
theorem PReads.below {w w' : World} {v : Value} {L : List Pr} (h : PReads w v L) (hb : Below w.heap.size w w') : PReads w' v L := by
  obtain ⟨a, cap, rfl, h1, h2, h3⟩ := h
  refine ⟨a, cap, rfl, h1, h2, ?_⟩
  rcases h3 with h3 | ⟨b, off, h4, h5, h6⟩
  · exact .inl h3
  · refine .inr ⟨b, off, h4, Nat.lt_of_lt_of_le h5 hb.size, fun j hj => ?_⟩
    obtain ⟨kv, vv, g1, g2, g3, g4⟩ := h6 j hj
    exact ⟨kv, vv, (hb.cell (p := ⟨b, off + j * 2, none⟩) h5).trans g1, (hb.cell (p := ⟨b, off + j * 2 + 1, none⟩) h5).trans g2, g3.below hb, g4.below hb⟩
set_option maxRecDepth 100000 in
theorem openP {H : Type} {enc : TypeId × Value → H} {W : World} {r : Reach} {b0 base : Nat} {spare : Nat → Bool} {held : Bool} {v : Value} {d : DataW H} {p : List MemPlace}
    (hv : Value.okWide Try.prog W r b0 22 v) (h : DataW.Trod enc Try.prog W base spare held 22 v d p) : ∃ L : List Pr, PReads W v L := by
  obtain ⟨a, len, cap, rfl⟩ := okWide_slice Try.underlying22 hv
  obtain ⟨fuel, hf⟩ := h
  rcases Go.Deep.open_slice Try.underlying22 hf with ⟨hcs, _⟩ | ⟨x, l, c, m, n, D, Pl, hcs, _, hl, hm, hz, _, hcell⟩
  · simp [Value.cells] at hcs
    obtain ⟨rfl, rfl, rfl⟩ := hcs
    exact ⟨[], none, 0, rfl, by simp, by simp, .inl rfl⟩
  · simp [Value.cells] at hcs
    obtain ⟨rfl, rfl, rfl⟩ := hcs
    have hzl : len ≤ m := by rw [hz]; split <;> omega
    have hce : Try.prog.cellsOf 38 = 2 := by kernel_rfl
    rw [hce] at hcell
    have hall : ∀ j, ∃ (y : Pr × Value × Value), j < len → W.cell? (x.add (j * 2)) = some y.2.1 ∧ W.cell? ((x.add (j * 2)).add 1) = some y.2.2 ∧ Reads W y.2.1 y.1.1 ∧ Reads W y.2.2 y.1.2 := by
      intro j
      by_cases hj : j < len
      · obtain ⟨cs', hc1, hc2⟩ := hcell j (by omega)
        obtain ⟨_, hl2, hq⟩ := World.cells?_some hc1
        obtain ⟨c0, c1, rfl⟩ := two_cells hl2
        obtain ⟨q, hr, hv⟩ := openP' hc2
        have h0 := hq 0 (by decide)
        have h1 := hq 1 (by decide)
        have e0 : (x.add (j * 2)).add 0 = x.add (j * 2) := by simp [Addr.add]
        rw [e0] at h0
        exact ⟨(q, c0, c1), fun _ => ⟨h0, h1, hr, hv⟩⟩
      · exact ⟨(([], []), .bool false, .bool false), fun h => absurd h hj⟩
    obtain ⟨ys, hys⟩ := Classical.axiomOfChoice hall
    rcases Nat.eq_zero_or_pos len with h0 | h0
    · subst h0
      exact ⟨[], _, cap, rfl, by simp, hm, .inl rfl⟩
    · have k0 := (hys 0 h0).1
      have e0 : x.add (0 * 2) = x := by simp [Addr.add]
      rw [e0] at k0
      obtain ⟨hb, hs⟩ := cell_block k0
      obtain ⟨b, off, spot⟩ := x
      simp only at hb hs
      subst hs
      refine ⟨(List.range len).map fun j => (ys j).1, _, cap, by simp, by simpa using hl, hm, .inr ⟨b, off, rfl, hb, fun j hj => ?_⟩⟩
      simp at hj
      obtain ⟨g1, g2, g3, g4⟩ := hys j hj
      have ej : ((List.range len).map fun j => (ys j).1)[j]'(by simpa using hj) = (ys j).1 := by simp
      rw [ej]
      have ea : (⟨b, off, none⟩ : Addr).add (j * 2) = ⟨b, off + j * 2, none⟩ := by simp [Addr.add]
      have eb : (⟨b, off + j * 2, none⟩ : Addr).add 1 = ⟨b, off + j * 2 + 1, none⟩ := by simp [Addr.add]
      rw [ea] at g1 g2
      rw [eb] at g2
      exact ⟨(ys j).2.1, (ys j).2.2, g1, g2, g3, g4⟩
end Go.Proofs.Ytfgggfddehgigaa
