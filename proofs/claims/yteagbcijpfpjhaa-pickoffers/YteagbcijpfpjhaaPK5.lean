/- The library's sort, of numbers of one's own. -/
import Derived.Test.YteagbcijpfpjhaaPK4
import Derived.Test.YteagbcijpfpjhaaPSo
import Derived.Sort.OwnSortedInts
namespace Go.Proofs.Yteagbcijpfpjhaa
open Go.RowKit Go.Shelf Go.Sort

def srt (l : List Int) : List Int := l.mergeSort fun x y => decide (x ≤ y)
theorem srt_len (l : List Int) : (srt l).length = l.length := by unfold srt; simp
theorem srt_perm (l : List Int) : (srt l).Perm l := List.mergeSort_perm _ _
theorem srt_sorted (l : List Int) : (srt l).Pairwise (fun x y => x ≤ y) := by
  have := List.pairwise_mergeSort (le := fun x y : Int => decide (x ≤ y)) (by intro a b c; simp; omega) (by intro a b; simp; omega) l
  exact this.imp (by simp)
theorem sort_any (v : Value) (l : List Int) (base : Nat) (w : World) (hO : Own w base v l) (hb : base ≤ w.heap.size) (hl : l.length ≤ 1000000) :
    Calls Try.prog 34 #[v] w fun e w' => e = .returned (.tuple #[]) ∧ Own w' base v (srt l) ∧ Below base w w' := by
  have hO2 := hO
  have hown := own_block hO
  rcases hO with ⟨h1, ⟨rfl, h2⟩ | ⟨g, cap, cur, rfl, hg, hw, hc, hm, hs, ht⟩⟩
  · refine (slices_Sort_int_none none 0 w).mono ?_
    rintro e w' ⟨rfl, rfl⟩
    have : l = [] := List.length_eq_zero_iff.1 h2
    subst this
    exact ⟨rfl, by rw [show srt [] = [] from by simp [srt]]; exact Own.nil _ _, Below.refl _ _⟩
  · refine (slices_Sort_int g 0 cap l w (holds_of_blockI hw (by rw [Nat.mul_one] at ht; exact ht)) (Array.getElem?_eq_some_iff.1 hw).1 (by omega)).mono ?_
    rintro e w' ⟨rfl, n, os, rfl⟩
    refine ⟨rfl, ?_, (Below.refl _ _).grown (grownBy_sortedI _) hb (fun j hj => by cases hj; exact hg)⟩
    unfold Own
    rw [srt_len]
    exact ownsRow_sortedI (srt_len l) hg hw hc hm hs
end Go.Proofs.Yteagbcijpfpjhaa
