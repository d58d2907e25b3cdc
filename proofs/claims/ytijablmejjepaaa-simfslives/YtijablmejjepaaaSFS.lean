/- law11: same, alive. -/
import Derived.Test.YtijablmejjepaaaSFR
namespace Go.Proofs.Ytijablmejjepaaa
open Go.RowKit Go.Maps Go.Sort

/-- What is seen of a file system. -/
def sfView (s : SfS) : List (List UInt8 × List UInt8) := s.dir.map fun p => (p.1, (s.fl p.2).1)
theorem read_at {w : World} {O : Nat → Prop} {p : Value} {s : SfS} (h : Fs w O p s) {j : Nat} (hj : j < s.dir.length) : sfFe (sfLook (s.dir[j].1) s.dir) = 0 ∧ sfRead s (s.dir[j].1) = (s.fl s.dir[j].2).1 ∧ s.dir[j].1.length ≤ 32 := by
  have hl : sfLook (s.dir[j].1) s.dir = some s.dir[j].2 := mem_look (sorted_ne h.sorted) (List.getElem_mem hj)
  refine ⟨by rw [hl]; rfl, by unfold sfRead; rw [hl], (h.1.di _ (List.getElem_mem hj)).2⟩
theorem below_drewN' {w : World} (n : Nat) : Below w.heap.size w (w.drewN n) := ⟨rfl, rfl, rfl, Nat.le_refl _, fun _ _ => rfl⟩
end Go.Proofs.Ytijablmejjepaaa
