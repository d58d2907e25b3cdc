/- A cell that is there lies in a block that is there. -/
import Derived.Test.YtfgnojmpnkjdmaaRows
import Derived.WalkKit
namespace Go.Proofs.Ytfgnojmpnkjdmaa
open Go.RowKit
theorem cell_block {w : World} {a : Addr} {v : Value} (h : w.cell? a = some v) : a.block < w.heap.size ∧ a.spot = none := by
  unfold World.cell? at h
  rcases Nat.lt_or_ge a.block w.heap.size with hb | hb
  · refine ⟨hb, ?_⟩
    split at h
    · split at h
      · cases h
      · rename_i hs; cases hsp : a.spot with
        | none => rfl
        | some s => rw [hsp] at hs; simp at hs
    · cases h
  · rw [Array.getElem?_eq_none hb] at h; cases h
end Go.Proofs.Ytfgnojmpnkjdmaa
