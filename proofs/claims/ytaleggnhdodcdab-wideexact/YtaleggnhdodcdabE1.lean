/- The walk of WideExact: whatever the facts, it returns true. -/
import Derived.Test.YtaleggnhdodcdabW9
import Derived.Test.YtaleggnhdodcdabR1
import Derived.OpenShut
import Derived.Deep.Cut
import Derived.Deep.DeepCutAuto
namespace Go.Proofs.Ytaleggnhdodcdab
open Go.RowKit

theorem bcE {w1 w2 : World} {b o : Nat} {v : Option Value} (hb : Below w1.heap.size w1 w2) (h : b < w1.heap.size) (hc : w1.cell? ⟨b, o, none⟩ = v) : w2.cell? ⟨b, o, none⟩ = v := by
  rw [hb.cell (p := ⟨b, o, none⟩) h]; exact hc
theorem bfE {w1 w2 : World} {b o : Nat} {v : Bool} (hb : Below w1.heap.size w1 w2) (h : b < w1.heap.size) (hc : w1.frozen? ⟨b, o, none⟩ = v) : w2.frozen? ⟨b, o, none⟩ = v := by
  rw [hb.frozen (p := ⟨b, o, none⟩) h]; exact hc
/-- The three sums, in a world. -/
def Sums (u d a : Int) (w wr : World) : Prop := wr.cell? ⟨w.heap.size + 1 + 1 + 1, 0, none⟩ = some (.int .i64 (hi u)) ∧ wr.cell? ⟨w.heap.size + 1 + 1 + 1, 1, none⟩ = some (.int .u64 (lo u)) ∧ wr.frozen? ⟨w.heap.size + 1 + 1 + 1, 0, none⟩ = false ∧ wr.frozen? ⟨w.heap.size + 1 + 1 + 1, 1, none⟩ = false ∧ wr.cell? ⟨w.heap.size + 1 + 1 + 1 + 1, 0, none⟩ = some (.int .i64 (hi d)) ∧ wr.cell? ⟨w.heap.size + 1 + 1 + 1 + 1, 1, none⟩ = some (.int .u64 (lo d)) ∧ wr.frozen? ⟨w.heap.size + 1 + 1 + 1 + 1, 0, none⟩ = false ∧ wr.frozen? ⟨w.heap.size + 1 + 1 + 1 + 1, 1, none⟩ = false ∧ wr.cell? ⟨w.heap.size + 1 + 1 + 1 + 1 + 1, 0, none⟩ = some (.int .i64 (hi a)) ∧ wr.cell? ⟨w.heap.size + 1 + 1 + 1 + 1 + 1, 1, none⟩ = some (.int .u64 (lo a)) ∧ wr.frozen? ⟨w.heap.size + 1 + 1 + 1 + 1 + 1, 0, none⟩ = false ∧ wr.frozen? ⟨w.heap.size + 1 + 1 + 1 + 1 + 1, 1, none⟩ = false ∧ w.heap.size + 1 + 1 + 1 + 1 + 1 < wr.heap.size ∧ Below w.heap.size w wr
theorem Sums.below {u d a : Int} {w w1 w2 : World} (h : Sums u d a w w1) (hb : Below w1.heap.size w1 w2) : Sums u d a w w2 := by
  obtain ⟨hu0, hu1, gu0, gu1, hd0, hd1, gd0, gd1, ha0, ha1, ga0, ga1, hsz, hbr⟩ := h
  have hz := hb.size
  refine ⟨bcE hb (by omega) hu0, bcE hb (by omega) hu1, bfE hb (by omega) gu0, bfE hb (by omega) gu1, bcE hb (by omega) hd0, bcE hb (by omega) hd1, bfE hb (by omega) gd0, bfE hb (by omega) gd1, bcE hb hsz ha0, bcE hb hsz ha1, bfE hb hsz ga0, bfE hb hsz ga1, by omega, hbr.trans (hb.mono (by omega))⟩
theorem Sums.drew {u d a : Int} {w w1 : World} (h : Sums u d a w w1) : Sums u d a w w1.drew := by
  obtain ⟨hu0, hu1, gu0, gu1, hd0, hd1, gd0, gd1, ha0, ha1, ga0, ga1, hsz, hbr⟩ := h
  exact ⟨hu0, hu1, gu0, gu1, hd0, hd1, gd0, gd1, ha0, ha1, ga0, ga1, hsz, hbr.drew⟩
theorem addr_bne (b c i j : Nat) (h : b ≠ c) : (⟨b, i, none⟩ : Addr) ≠ ⟨c, j, none⟩ := by
  intro e; exact h (congrArg Addr.block e)
/-- One of the three is written. -/
theorem Sums.set (u d a x : Int) {w w1 : World} (h : Sums u d a w w1) :
    Sums u d x w ((w1.setCell ⟨w.heap.size + 1 + 1 + 1 + 1 + 1, 0, none⟩ (.int .i64 (hi x))).setCell ⟨w.heap.size + 1 + 1 + 1 + 1 + 1, 1, none⟩ (.int .u64 (lo x))) ∧
    Sums x d a w ((w1.setCell ⟨w.heap.size + 1 + 1 + 1, 0, none⟩ (.int .i64 (hi x))).setCell ⟨w.heap.size + 1 + 1 + 1, 1, none⟩ (.int .u64 (lo x))) ∧
    Sums u x a w ((w1.setCell ⟨w.heap.size + 1 + 1 + 1 + 1, 0, none⟩ (.int .i64 (hi x))).setCell ⟨w.heap.size + 1 + 1 + 1 + 1, 1, none⟩ (.int .u64 (lo x))) := by
  obtain ⟨hu0, hu1, gu0, gu1, hd0, hd1, gd0, gd1, ha0, ha1, ga0, ga1, hsz, hbr⟩ := h
  have far : ∀ (p q i j k : Nat) (v0 v1 : Value) (r : Option Value), p ≠ q → w1.cell? ⟨q, i, none⟩ = r → ((w1.setCell ⟨p, j, none⟩ v0).setCell ⟨p, k, none⟩ v1).cell? ⟨q, i, none⟩ = r := by
    intro p q i j k v0 v1 r hne hr
    rw [World.cell?_setCell_other (h := addr_bne p q k i hne), World.cell?_setCell_other (h := addr_bne p q j i hne)]; exact hr
  have n0 : ∀ (p : Nat) (v0 v1 u0 : Value), w1.cell? ⟨p, 0, none⟩ = some u0 → ((w1.setCell ⟨p, 0, none⟩ v0).setCell ⟨p, 1, none⟩ v1).cell? ⟨p, 0, none⟩ = some v0 := by
    intro p v0 v1 u0 h0
    rw [World.cell?_setCell_other (h := addr_ne p 1 0 (by omega)), World.cell?_setCell_same _ _ _ h0]
  have n1 : ∀ (p : Nat) (v0 v1 u1 : Value), w1.cell? ⟨p, 1, none⟩ = some u1 → ((w1.setCell ⟨p, 0, none⟩ v0).setCell ⟨p, 1, none⟩ v1).cell? ⟨p, 1, none⟩ = some v1 := by
    intro p v0 v1 u1 h1
    refine World.cell?_setCell_same _ _ _ (u := u1) ?_
    rw [World.cell?_setCell_other (h := addr_ne p 0 1 (by omega))]; exact h1
  have fz : ∀ (p q i : Nat) (v0 v1 : Value) (r : Bool), w1.frozen? ⟨q, i, none⟩ = r → ((w1.setCell ⟨p, 0, none⟩ v0).setCell ⟨p, 1, none⟩ v1).frozen? ⟨q, i, none⟩ = r := by
    intro p q i v0 v1 r hr; rw [World.frozen?_setCell, World.frozen?_setCell]; exact hr
  have bl : ∀ (p : Nat) (v0 v1 : Value), w.heap.size ≤ p → Below w.heap.size w ((w1.setCell ⟨p, 0, none⟩ v0).setCell ⟨p, 1, none⟩ v1) := fun p v0 v1 hp => (hbr.setCell hp _).setCell hp _
  have sz : ∀ (p : Nat) (v0 v1 : Value), w.heap.size + 1 + 1 + 1 + 1 + 1 < ((w1.setCell ⟨p, 0, none⟩ v0).setCell ⟨p, 1, none⟩ v1).heap.size := by
    intro p v0 v1; simp [World.setCell]; omega
  refine ⟨?_, ?_, ?_⟩
  · exact ⟨far _ _ _ _ _ _ _ _ (by omega) hu0, far _ _ _ _ _ _ _ _ (by omega) hu1, fz _ _ _ _ _ _ gu0, fz _ _ _ _ _ _ gu1, far _ _ _ _ _ _ _ _ (by omega) hd0, far _ _ _ _ _ _ _ _ (by omega) hd1, fz _ _ _ _ _ _ gd0, fz _ _ _ _ _ _ gd1, n0 _ _ _ _ ha0, n1 _ _ _ _ ha1, fz _ _ _ _ _ _ ga0, fz _ _ _ _ _ _ ga1, sz _ _ _, bl _ _ _ (by omega)⟩
  · exact ⟨n0 _ _ _ _ hu0, n1 _ _ _ _ hu1, fz _ _ _ _ _ _ gu0, fz _ _ _ _ _ _ gu1, far _ _ _ _ _ _ _ _ (by omega) hd0, far _ _ _ _ _ _ _ _ (by omega) hd1, fz _ _ _ _ _ _ gd0, fz _ _ _ _ _ _ gd1, far _ _ _ _ _ _ _ _ (by omega) ha0, far _ _ _ _ _ _ _ _ (by omega) ha1, fz _ _ _ _ _ _ ga0, fz _ _ _ _ _ _ ga1, sz _ _ _, bl _ _ _ (by omega)⟩
  · exact ⟨far _ _ _ _ _ _ _ _ (by omega) hu0, far _ _ _ _ _ _ _ _ (by omega) hu1, fz _ _ _ _ _ _ gu0, fz _ _ _ _ _ _ gu1, n0 _ _ _ _ hd0, n1 _ _ _ _ hd1, fz _ _ _ _ _ _ gd0, fz _ _ _ _ _ _ gd1, far _ _ _ _ _ _ _ _ (by omega) ha0, far _ _ _ _ _ _ _ _ (by omega) ha1, fz _ _ _ _ _ _ ga0, fz _ _ _ _ _ _ ga1, sz _ _ _, bl _ _ _ (by omega)⟩
end Go.Proofs.Ytaleggnhdodcdab
