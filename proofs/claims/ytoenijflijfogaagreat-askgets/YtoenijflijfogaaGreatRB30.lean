/- AQ6, joined. -/
import Derived.Test.YtoenijflijfogaaGreatRB29
/- The contract of ask.Scan. -/
namespace Go.Proofs.YtoenijflijfogaaGreat
open Go.RowKit

/-- What calls that tell rows tell: rows, and a number. -/
def RwPost (rs : List Rw) (c : Int) (w : World) (e : Ending) (w' : World) : Prop :=
  Below w.heap.size w w' ∧ ∃ a cap ys, e = .returned (.tuple #[.slice a ys.length cap, .int .i64 c]) ∧ TReads w' (.slice a ys.length cap) ys ∧ ys.map itR = rs ∧ ∀ y ∈ ys, RwOk y
theorem RwPost.none {c : Int} {w w' : World} (h : Below w.heap.size w w') : RwPost [] c w (.returned (.tuple #[.slice none 0 0, .int .i64 c])) w' :=
  ⟨h, Option.none, 0, [], rfl, ⟨Option.none, 0, rfl, Nat.le_refl _, Nat.zero_le _, .inl rfl⟩, rfl, fun y hy => by cases hy⟩
end Go.Proofs.YtoenijflijfogaaGreat
