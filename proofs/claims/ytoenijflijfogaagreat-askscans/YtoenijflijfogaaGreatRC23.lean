/- FL15, joined. -/
import Derived.Test.YtoenijflijfogaaGreatRC22
import Derived.BigQuiet
import Derived.Deep.QuietTactic
/- The contract of fold.Facts. -/
namespace Go.Proofs.YtoenijflijfogaaGreat
open Go.RowKit Go.Shelf

theorem take_fa {fs : List Fa} {R : Rl} {k : Nat} (hk : k < fs.length) : ((fs.take (k + 1)).map (fcI R)).flatMap c9 = ((fs.take k).map (fcI R)).flatMap c9 ++ c9 (fcI R fs[k]) := by
  rw [List.take_add_one, List.getElem?_eq_getElem hk, List.map_append, List.flatMap_append]
  simp
theorem FcI.snoc {R : Rl} {w w1 : World} {fs : List Fa} {k : Nat} {v v' : Value} {wr W : World} {o : Obj} (h : FcI R w w1 fs k v wr) (hk : k < fs.length) (hm : mayF fs[k] = true) (hown : W.ownsRow w1.heap.size 133 9 v' (k + 1) (((fs.take k).map (fcI R)).flatMap c9 ++ c9 (fcI R fs[k]))) (hg : (wr.alloc o).grownBy W v.ownBlock) : FcI R w w1 fs (k + 1) v' W := by
  refine ⟨by rw [take_fa hk]; exact hown, fun j hj hjk => ?_, ?_⟩
  · rcases Nat.lt_or_ge j k with h1 | h1
    · exact h.m j hj h1
    · have : j = k := by omega
      subst this; exact hm
  · exact (h.b.alloc h.b.size o).grown hg (by have := h.b.size; simp; omega) (fun t ht => (World.ownsRow.lt h.r t ht).1)
end Go.Proofs.YtoenijflijfogaaGreat
