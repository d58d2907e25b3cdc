/- XB, joined. -/
import Derived.Test.YtiamjcgfmfbnoaaQG1
import Derived.BigQuiet
import Derived.Deep.QuietTactic
/- A box of a number, and worlds that were drawn from. -/
namespace Go.Proofs.Ytiamjcgfmfbnoaa
open Go.RowKit

/-- A box of a number. -/
def NBox (x : Int) (b : Nat) (w : World) : Prop := b < w.heap.size ∧ w.cell? ⟨b, 0, none⟩ = some (.int .i64 (hi x)) ∧ w.cell? ⟨b, 1, none⟩ = some (.int .u64 (lo x))
theorem NBox.below {x : Int} {b : Nat} {w1 w2 : World} (h : NBox x b w1) (hb : Below w1.heap.size w1 w2) : NBox x b w2 := by
  obtain ⟨h0, h1, h2⟩ := h
  have := hb.size
  exact ⟨by omega, (hb.cell (p := ⟨b, 0, none⟩) h0).trans h1, (hb.cell (p := ⟨b, 1, none⟩) h0).trans h2⟩
theorem bel_dN {n : Nat} {w1 w2 : World} (h : Below n w1 w2) (k : Nat) : Below n w1 (w2.drewN k) := h.trans ⟨rfl, rfl, rfl, Nat.le_refl _, fun _ _ => rfl⟩
end Go.Proofs.Ytiamjcgfmfbnoaa
