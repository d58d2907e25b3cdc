/- XM, joined. -/
import Derived.Test.YtoibmjmajbkbcaaSG16
/- The contracts of the reference's Of, Minus, Times. -/
namespace Go.Proofs.Ytoibmjmajbkbcaa
open Go.RowKit

/-- A number's box that can be written. -/
def Nb (x : Int) (b : Nat) (w : World) : Prop := b < w.heap.size ∧ w.cell? ⟨b, 0, none⟩ = some (.int .i64 (hi x)) ∧ w.cell? ⟨b, 1, none⟩ = some (.int .u64 (lo x)) ∧ ∀ o, w.frozen? ⟨b, o, none⟩ = false
theorem Nb.below {x : Int} {b : Nat} {w1 w2 : World} (h : Nb x b w1) (hb : Below w1.heap.size w1 w2) : Nb x b w2 := by
  obtain ⟨h0, h1, h2, h3⟩ := h
  have := hb.size
  exact ⟨by omega, (hb.cell (p := ⟨b, 0, none⟩) h0).trans h1, (hb.cell (p := ⟨b, 1, none⟩) h0).trans h2, fun o => (hb.frozen (p := ⟨b, o, none⟩) h0).trans (h3 o)⟩
theorem Nb.far {x : Int} {b b' i : Nat} {u : Value} {w : World} (h : Nb x b w) (hne : b' ≠ b) : Nb x b (w.setCell ⟨b', i, none⟩ u) := by
  obtain ⟨h0, h1, h2, h3⟩ := h
  refine ⟨by simp [World.setCell]; exact h0, ?_, ?_, fun o => by rw [World.frozen?_setCell]; exact h3 o⟩
  · rw [World.cell?_setCell_other (h := by intro e; injection e with e1 _; exact hne e1)]; exact h1
  · rw [World.cell?_setCell_other (h := by intro e; injection e with e1 _; exact hne e1)]; exact h2
theorem Nb.set {x y : Int} {b : Nat} {w : World} (h : Nb x b w) : Nb y b ((w.setCell ⟨b, 0, none⟩ (.int .i64 (hi y))).setCell ⟨b, 1, none⟩ (.int .u64 (lo y))) := by
  obtain ⟨h0, h1, h2, h3⟩ := h
  refine ⟨by simp [World.setCell]; exact h0, ?_, ?_, fun o => by rw [World.frozen?_setCell, World.frozen?_setCell]; exact h3 o⟩
  · rw [World.cell?_setCell_other (h := by simp)]; exact World.cell?_setCell_same _ _ _ h1
  · have q : (w.setCell ⟨b, 0, none⟩ (.int .i64 (hi y))).cell? ⟨b, 1, none⟩ = some (.int .u64 (lo x)) := by
      rw [World.cell?_setCell_other (h := by simp)]; exact h2
    exact World.cell?_setCell_same _ _ _ q
end Go.Proofs.Ytoibmjmajbkbcaa
