/- R1g OR FA0, joined. -/
import Derived.Test.YtiamjcgfmfbnoaaQG11
import Derived.Test.YtiamjcgfmfbnoaaQG41
import Derived.Test.YtiamjcgfmfbnoaaRows
import Derived.WalkKit
import Derived.ProofKit
import Derived.OpenShut
import Derived.Lib.SmallJoins
import Derived.Deep.SlicePairs
/- A cell that is there lies in a block that is there. -/
namespace Go.Proofs.Ytiamjcgfmfbnoaa
open Go.RowKit
end Go.Proofs.Ytiamjcgfmfbnoaa

/- Rules, as an argument by value: the value written out, and where the steps lie. -/
namespace Go.Proofs.Ytiamjcgfmfbnoaa
open Go.ChangeShapes Go.WideShapes Go.ChangeAt Go.RowKit Go.Joins Go.Deep

set_option maxRecDepth 100000 in
theorem openR {H : Type} {enc : TypeId × Value → H} {W : World} {r : Reach} {b0 base : Nat} {spare : Nat → Bool} {held : Bool} {v : Value} {d : DataW H} {p : List MemPlace}
    (hv : Value.okWide Try.prog W r b0 24 v) (h : DataW.Trod enc Try.prog W base spare held 24 v d p) :
    ∃ R : Rl, v = .agg #[.slice R.a R.len R.cap, .int .i64 R.kp] ∧ Lies R W.heap.size W := by
  obtain ⟨v0, v1, y0, y1, n, rfl, _, _, h0, h1⟩ := open_agg2 Try.underlying24 (by kernel_rfl) (by kernel_rfl) hv h
  obtain ⟨kp, e1, _, _⟩ := DataW.trod_int Try.underlying2 h1
  simp at e1
  subst e1
  rcases open_slice_pairs Try.underlying22 Try.underlying73 (by kernel_rfl) rfl rfl (by kernel_rfl) (by kernel_rfl) h0 with ⟨hcs, _⟩ | ⟨a, len, cap, m, k, V0, V1, D0, D1, P0, P1, hcs, _, hl, hm, hmm, _, hx⟩
  · simp at hcs
    subst hcs
    exact ⟨⟨none, 0, 0, fun _ => 0, fun _ => 0, kp⟩, rfl, Nat.zero_le _, Nat.le_refl _, .inl rfl⟩
  · simp at hcs
    subst hcs
    have hlm : len ≤ m := by rw [hmm]; split <;> omega
    have ints : ∀ i, i < m → ∃ x y, V0 i = .int .i64 x ∧ V1 i = .int .i64 y := by
      intro i hi
      obtain ⟨_, _, g0, g1⟩ := hx i hi
      obtain ⟨x, q0, _, _⟩ := DataW.trod_int Try.underlying2 g0
      obtain ⟨y, q1, _, _⟩ := DataW.trod_int Try.underlying2 g1
      simp at q0 q1
      exact ⟨x, y, q0, q1⟩
    let f : Nat → Int := fun i => intOf (V0 i)
    let g : Nat → Int := fun i => intOf (V1 i)
    refine ⟨⟨some a, len, cap, f, g, kp⟩, rfl, by show len ≤ maxLen; omega, Nat.le_refl _, ?_⟩
    rcases Nat.eq_zero_or_pos len with h00 | h00
    · exact .inl h00
    · right
      obtain ⟨c0, _, _, _⟩ := hx 0 (by omega)
      have e0 : a.add (0 * 2) = a := by simp [Addr.add]
      rw [e0] at c0
      obtain ⟨hb, hs⟩ := cell_block c0
      obtain ⟨b, off, spot⟩ := a
      simp only at hb hs
      subst hs
      refine ⟨b, off, rfl, hb, fun i hi => ?_⟩
      have hi' : i < len := hi
      obtain ⟨x, y, q0, q1⟩ := ints i (by omega)
      obtain ⟨d0, d1, _, _⟩ := hx i (by omega)
      have ea : (⟨b, off, none⟩ : Addr).add (i * 2) = ⟨b, off + i * 2, none⟩ := by simp [Addr.add]
      have eb : (⟨b, off, none⟩ : Addr).add (i * 2 + 1) = ⟨b, off + i * 2 + 1, none⟩ := by simp [Addr.add]; omega
      rw [ea] at d0
      rw [eb] at d1
      refine ⟨?_, ?_⟩
      · rw [d0, q0]; show _ = some (Value.int .i64 (intOf (V0 i))); rw [q0]; rfl
      · rw [d1, q1]; show _ = some (Value.int .i64 (intOf (V1 i))); rw [q1]; rfl
end Go.Proofs.Ytiamjcgfmfbnoaa

/- Entries and facts as arguments; what the laws of fold ask of its contracts. -/
namespace Go.Proofs.Ytiamjcgfmfbnoaa
open Go.ChangeShapes Go.WideShapes Go.ChangeAt Go.RowKit Go.Joins

set_option maxRecDepth 100000 in
theorem openE {H : Type} {enc : TypeId × Value → H} {W : World} {r : Reach} {b0 base : Nat} {spare : Nat → Bool} {held : Bool} {v : Value} {d : DataW H} {p : List MemPlace}
    (hv : Value.okWide Try.prog W r b0 25 v) (h : DataW.Trod enc Try.prog W base spare held 25 v d p) : ∃ L : List En, EReads W v L := by
  obtain ⟨a, len, cap, rfl⟩ := okWide_slice Try.underlying25 hv
  obtain ⟨fuel, hf⟩ := h
  obtain ⟨v', L, hcs, hr⟩ := openEs (fuel := fuel) (by simpa [Value.cells] using hf)
  simp at hcs
  subst hcs
  exact ⟨L, hr⟩
theorem threeF {α : Type} : ∀ {l : List α}, l.length = 3 → ∃ c0 c1 c2, l = [c0, c1, c2]
  | [c0, c1, c2], _ => ⟨c0, c1, c2, rfl⟩
theorem cellsS : Try.prog.cellsOf 46 = 1 := by kernel_rfl
set_option maxRecDepth 100000 in
theorem openF' {H : Type} {enc : TypeId × Value → H} {W : World} {base : Nat} {spare : Nat → Bool} {held : Bool} {c0 c1 c2 : Value} {x : DataW H × List MemPlace} {fuel : Nat}
    (hf : DataW.trod enc Try.prog W base spare held fuel 48 [c0, c1, c2] = some x) : ∃ f : Fa, [c0, c1, c2] = c3 f ∧ SReads W f.v f.D ∧ FaB f := by
  obtain ⟨xs, n, _, _, _, hlen, hfs⟩ := DataW.trod_struct Try.underlying48 hf
  obtain ⟨y0, g0⟩ := some_of_len (i := 0) hlen (by decide)
  obtain ⟨y1, g1⟩ := some_of_len (i := 1) hlen (by decide)
  obtain ⟨y2, g2⟩ := some_of_len (i := 2) hlen (by decide)
  have e0 := (hfs 0 _ rfl).trans g0
  have e1 := (hfs 1 _ rfl).trans g1
  have e2 := (hfs 2 _ rfl).trans g2
  simp [cellsS] at e0
  simp [cells64] at e1
  simp [cells64] at e2
  obtain ⟨D, hD⟩ := openS' e0
  obtain ⟨t, q1, _, w1⟩ := DataW.trod_int Try.underlying2 e1
  obtain ⟨v, q2, _, w2⟩ := DataW.trod_int Try.underlying2 e2
  simp at q1 q2
  subst q1 q2
  have b1 := bounds_i64 w1
  have b2 := bounds_i64 w2
  exact ⟨⟨c0, D, t, v⟩, rfl, hD, b1.1, b1.2, b2.1, b2.2⟩
set_option maxRecDepth 100000 in
theorem openF {H : Type} {enc : TypeId × Value → H} {W : World} {r : Reach} {b0 base : Nat} {spare : Nat → Bool} {held : Bool} {v : Value} {d : DataW H} {p : List MemPlace}
    (hv : Value.okWide Try.prog W r b0 49 v) (h : DataW.Trod enc Try.prog W base spare held 49 v d p) : ∃ fs : List Fa, FReads W v fs := by
  obtain ⟨a, len, cap, rfl⟩ := okWide_slice Try.underlying49 hv
  obtain ⟨fuel, hf⟩ := h
  rcases Go.Deep.open_slice Try.underlying49 hf with ⟨hcs, _⟩ | ⟨x, len', cap', m, n, D, Pl, hcs, _, hl, hm, hz, _, hcell⟩
  · simp [Value.cells] at hcs
    obtain ⟨rfl, rfl, rfl⟩ := hcs
    exact ⟨[], none, 0, rfl, by simp, by simp, .inl rfl⟩
  · simp [Value.cells] at hcs
    obtain ⟨rfl, rfl, rfl⟩ := hcs
    have hzl : len ≤ m := by rw [hz]; split <;> omega
    have hce : Try.prog.cellsOf 48 = 3 := by kernel_rfl
    rw [hce] at hcell
    have hall : ∀ j, ∃ (y : Fa), j < len → (∀ i (hi : i < 3), W.cell? (x.add (j * 3 + i)) = some ((c3 y)[i]'hi)) ∧ SReads W y.v y.D ∧ FaB y := by
      intro j
      by_cases hj : j < len
      · obtain ⟨cs', hc1, hc2⟩ := hcell j (by omega)
        obtain ⟨_, hl7, hq⟩ := World.cells?_some hc1
        obtain ⟨c0, c1, c2, rfl⟩ := threeF hl7
        obtain ⟨f, e, hr, ha⟩ := openF' hc2
        refine ⟨f, fun _ => ⟨fun i hi => ?_, hr, ha⟩⟩
        have h1 := hq i hi
        rw [e, List.getElem?_eq_getElem (show i < (c3 f).length from hi)] at h1
        have ea : (x.add (j * 3)).add i = x.add (j * 3 + i) := by
          obtain ⟨xb, xo, xs⟩ := x
          by_cases h1 : j = 0
          · subst h1; simp [Addr.add]
          · have h2 : j * 3 ≠ 0 := by omega
            have h3 : j * 3 + i ≠ 0 := by omega
            by_cases h4 : i = 0
            · subst h4; simp [Addr.add]
            · have h5 : xo + j * 3 + i = xo + (j * 3 + i) := by omega
              unfold Addr.add
              rw [if_neg h2, if_neg h4, if_neg h3]
              simp only [h5]
        rw [ea] at h1
        exact h1
      · exact ⟨⟨.bool false, [], 0, 0⟩, fun h => absurd h hj⟩
    obtain ⟨ys, hys⟩ := Classical.axiomOfChoice hall
    rcases Nat.eq_zero_or_pos len with h0 | h0
    · subst h0
      exact ⟨[], _, cap, rfl, by simp, hm, .inl rfl⟩
    · have k0 := (hys 0 h0).1 0 (by decide)
      have e0 : x.add (0 * 3 + 0) = x := by simp [Addr.add]
      rw [e0] at k0
      obtain ⟨hb, hs⟩ := cell_block k0
      obtain ⟨b, off, spot⟩ := x
      simp only at hb hs
      subst hs
      refine ⟨(List.range len).map fun j => ys j, _, cap, by simp, by simpa using hl, hm, .inr ⟨b, off, rfl, hb, fun j hj => ?_⟩⟩
      simp at hj
      obtain ⟨g1, g2, g3⟩ := hys j hj
      have ej : ((List.range len).map fun j => ys j)[j]'(by simpa using hj) = ys j := by simp
      rw [ej]
      refine ⟨fun i hi => ?_, g2, g3⟩
      have ea : (⟨b, off, none⟩ : Addr).add (j * 3 + i) = ⟨b, off + j * 3 + i, none⟩ := by rw [Nat.add_assoc]; simp [Addr.add]
      have := g1 i hi
      rw [ea] at this
      exact this
theorem jb_short : ∀ (D : List ByteArray), (∀ s ∈ D, s.size ≤ 16) → (jb D).length ≤ 35 * D.length
  | [], _ => by simp [jb]
  | s :: D, h => by
    have h1 := jb_short D (fun t ht => h t (List.mem_cons_of_mem _ ht))
    have h2 := h s (List.mem_cons_self ..)
    have h3 := tx_len s.data.toList
    have h4 : s.data.toList.length = s.size := by simp
    rw [jb_cons]
    simp only [List.length_cons, List.length_append]
    omega
/-- A key of the rules is short. -/
theorem fit_short {R : Rl} {k : Ks} (h : FitK R k) : k.length ≤ 1000 := by
  obtain ⟨D, f, g, hr, _⟩ := h
  obtain ⟨h1, h2⟩ := rdF_taken hr
  obtain ⟨hm, _⟩ := right_facts h1
  have hmm := mayB_iff.1 hm
  have h3 := jb_short D hmm.2
  have h4 := hmm.1
  rw [← h2, kb_len]
  unfold jn
  rw [List.length_append]
  simp only [List.length_cons, List.length_nil]
  omega
/-- Fold where it may be. -/
theorem fold_ok (R : Rl) (wm : Int) (v : Value) (L : List En) (w : World) (hL : Lies R w.heap.size w) (hE : EReads w v L) (hl : L.length ≤ 100000) (hk : ∀ x ∈ L, x.1.length ≤ 1000) (hz : chkF R wm L = 0) (A : List En) (hA : A = foldF R wm L) :
    Calls Try.prog 6 #[.agg #[.slice R.a R.len R.cap, .int .i64 R.kp], .int .i64 wm, v] w fun e w' => ∃ a cap, e = .returned (.tuple #[.slice a A.length cap, .int .i64 0]) ∧ EReads w' (.slice a A.length cap) A ∧ Below w.heap.size w w' := by
  subst hA
  refine (fold_any R wm v L w hL hE hl hk).mono ?_
  rintro e w2 ⟨hb2, ⟨hne, rfl⟩ | ⟨_, l, rfl, hr⟩⟩
  · exact absurd hz hne
  · obtain ⟨a, cap, rfl, _⟩ := hr.form
    exact ⟨a, cap, rfl, hr, hb2⟩
end Go.Proofs.Ytiamjcgfmfbnoaa
