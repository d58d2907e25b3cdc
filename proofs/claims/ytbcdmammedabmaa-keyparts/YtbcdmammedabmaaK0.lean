/- Texts that a slice reads, whoever made it; keys as arguments. -/
import Derived.Test.YtbcdmammedabmaaC0
import Derived.Test.YtbcdmammedabmaaOB
import Derived.SliceStrings
import Derived.Lib.SmallJoins
import Derived.OpenShut
import Derived.ProofKit
namespace Go.Proofs.Ytbcdmammedabmaa
open Go.ChangeShapes Go.WideShapes Go.ChangeAt Go.RowKit Go.Joins

/-- A slice value reads these texts. -/
def SReads (w : World) (v : Value) (L : List ByteArray) : Prop :=
  (L = [] ∧ ∃ a cap, v = .slice a 0 cap ∧ (a = none → cap = 0)) ∨
  ∃ b off cap, v = .slice (some ⟨b, off, none⟩) L.length cap ∧ 0 < L.length ∧ L.length ≤ cap ∧ cap ≤ maxLen ∧ b < w.heap.size ∧ (∀ j (h : j < L.length), w.cell? ⟨b, off + j, none⟩ = some (.string L[j])) ∧ ∀ s ∈ L, s.size ≤ maxLen
theorem SReads.below {w w' : World} {v : Value} {L : List ByteArray} (h : SReads w v L) (hb : Below w.heap.size w w') : SReads w' v L := by
  rcases h with h | ⟨b, off, cap, h1, h2, h3, h4, h5, h6, h7⟩
  · exact .inl h
  · have := hb.size
    exact .inr ⟨b, off, cap, h1, h2, h3, h4, by omega, fun j hj => (hb.cell (p := ⟨b, off + j, none⟩) h5).trans (h6 j hj), h7⟩
theorem SReads.form {w : World} {v : Value} {L : List ByteArray} (h : SReads w v L) : ∃ a cap, v = .slice a L.length cap ∧ L.length ≤ maxLen := by
  rcases h with ⟨rfl, a, cap, h, _⟩ | ⟨b, off, cap, h1, h2, h3, h4, h5, h6, h7⟩
  · exact ⟨a, cap, h, by simp⟩
  · exact ⟨_, cap, h1, by omega⟩
theorem SReads.at {w : World} {a : Option Addr} {n cap : Nat} {L : List ByteArray} (h : SReads w (.slice a n cap) L) (j : Nat) (hj : j < L.length) : ∃ b off, a = some ⟨b, off, none⟩ ∧ b < w.heap.size ∧ w.cell? ⟨b, off + j, none⟩ = some (.string L[j]) := by
  rcases h with ⟨rfl, _⟩ | ⟨b, off, cap', hv, h2, h3, h4, h5, h6, h7⟩
  · simp at hj
  · simp at hv
    exact ⟨b, off, hv.1, h5, h6 j hj⟩
theorem SReads.size {w : World} {v : Value} {L : List ByteArray} (h : SReads w v L) : ∀ s ∈ L, s.size ≤ maxLen := by
  rcases h with ⟨rfl, _⟩ | ⟨_, _, _, _, _, _, _, _, _, h7⟩
  · intro s hs; simp at hs
  · exact h7
theorem openS' {H : Type} {enc : TypeId × Value → H} {W : World} {base : Nat} {spare : Nat → Bool} {held : Bool} {v : Value} {x : DataW H × List MemPlace} {fuel : Nat}
    (h : DataW.trod enc Try.prog W base spare held fuel 22 [v] = some x) : ∃ L : List ByteArray, SReads W v L := by
  rcases open_strings Try.underlying22 Try.underlying9 (by kernel_rfl) h with ⟨hcs, _⟩ | ⟨a, len, cap, ss, hcs, _, hl, hm, hz, _, hcell, hwz⟩
  · simp at hcs
    subst hcs
    exact ⟨[], .inl ⟨rfl, _, _, rfl, fun _ => rfl⟩⟩
  · simp at hcs
    subst hcs
    have hzl : len ≤ ss.length := by rw [hz]; split <;> omega
    rcases Nat.eq_zero_or_pos len with h0 | h0
    · subst h0; exact ⟨[], .inl ⟨rfl, _, _, rfl, fun h => by cases h⟩⟩
    · have hlen : (ss.take len).length = len := by simp; omega
      have c0 := hcell 0 (by omega)
      have e0 : a.add 0 = a := by simp [Addr.add]
      rw [e0] at c0
      obtain ⟨hb, hs⟩ := cell_block c0
      obtain ⟨b, off, spot⟩ := a
      simp only at hb hs
      subst hs
      refine ⟨ss.take len, .inr ⟨b, off, cap, by rw [hlen], by omega, by omega, hm, hb, fun j hj => ?_, fun s hs => hwz s (List.mem_of_mem_take hs)⟩⟩
      have hj' : j < len := by omega
      have cj := hcell j (by omega)
      have ea : (⟨b, off, none⟩ : Addr).add j = ⟨b, off + j, none⟩ := by simp [Addr.add]
      rw [ea] at cj
      rw [cj]
      have hzj : j < ss.length := by omega
      simp [List.getD, hzj]
theorem openS {H : Type} {enc : TypeId × Value → H} {W : World} {r : Reach} {b0 base : Nat} {spare : Nat → Bool} {held : Bool} {v : Value} {d : DataW H} {p : List MemPlace}
    (hv : Value.okWide Try.prog W r b0 22 v) (h : DataW.Trod enc Try.prog W base spare held 22 v d p) : ∃ L : List ByteArray, SReads W v L := by
  obtain ⟨a, len, cap, rfl⟩ := okWide_slice Try.underlying22 hv
  obtain ⟨fuel, hf⟩ := h
  exact openS' (fuel := fuel) (by simpa [Value.cells] using hf)
/-- A key: its dimensions' slice, when it begins, how coarse it is. -/
structure Ky where
  v : Value
  L : List ByteArray
  f : Int
  g : Int
def Ky.val (k : Ky) : Value := .agg #[k.v, .int .i64 k.f, .int .i64 k.g]
/-- It lies there. -/
structure KLies (k : Ky) (w : World) : Prop where
  r : SReads w k.v k.L
  f1 : -9223372036854775808 ≤ k.f
  f2 : k.f ≤ 9223372036854775807
  g1 : -9223372036854775808 ≤ k.g
  g2 : k.g ≤ 9223372036854775807
theorem KLies.below {k : Ky} {w w' : World} (h : KLies k w) (hb : Below w.heap.size w w') : KLies k w' := ⟨h.r.below hb, h.f1, h.f2, h.g1, h.g2⟩
theorem openK {H : Type} {enc : TypeId × Value → H} {W : World} {r : Reach} {b0 base : Nat} {spare : Nat → Bool} {held : Bool} {v : Value} {d : DataW H} {p : List MemPlace}
    (hv : Value.okWide Try.prog W r b0 24 v) (h : DataW.Trod enc Try.prog W base spare held 24 v d p) :
    ∃ k : Ky, v = k.val ∧ KLies k W := by
  obtain ⟨v0, v1, v2, y0, y1, y2, n, rfl, _, _, h0, h1, h2⟩ := open_agg3 Try.underlying24 (by kernel_rfl) (by kernel_rfl) hv h
  obtain ⟨f, e1, _, w1⟩ := DataW.trod_int Try.underlying2 h1
  obtain ⟨g, e2, _, w2⟩ := DataW.trod_int Try.underlying3 h2
  simp at e1 e2
  subst e1 e2
  obtain ⟨L, hL⟩ := openS' h0
  have b1 := bounds_i64 w1
  have b2 := bounds_i64 w2
  exact ⟨⟨v0, L, f, g⟩, rfl, hL, b1.1, b1.2, b2.1, b2.2⟩
end Go.Proofs.Ytbcdmammedabmaa
