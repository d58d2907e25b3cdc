/- FeedOrder: a feed and four rows beside it. -/
import Derived.Test.YtkamambgpcdonaaFE3
import Derived.Test.YtkamambgpcdonaaFO1
import Derived.Test.YtkamambgpcdonaaAO
namespace Go.Proofs.Ytkamambgpcdonaa
open Go.RowKit Go.Conc

/-- A feed below a block. -/
def FdG (w : World) (base N : Nat) (p : Value) (n : Nat) (U O : List Int) (cl : Bool) : Prop :=
  ∃ g cu co su ru so ro, p = .pointer (some ⟨g, 0, none⟩) ∧ FdAt w base g cu co su ru so ro n U O cl ∧ g < N ∧ cu < N ∧ co < N
theorem FdG.fd {w : World} {base N n : Nat} {p : Value} {U O : List Int} {cl : Bool} (h : FdG w base N p n U O cl) : Fd w base p n U O cl := by
  obtain ⟨g, cu, co, su, ru, so, ro, rfl, hf, _⟩ := h
  exact ⟨g, cu, co, su, ru, so, ro, rfl, hf⟩
theorem FdG.of {w : World} {base n : Nat} {p : Value} {U O : List Int} {cl : Bool} (h : Fd w base p n U O cl) : FdG w base w.heap.size p n U O cl := by
  obtain ⟨g, cu, co, su, ru, so, ro, rfl, hf⟩ := h
  exact ⟨g, cu, co, su, ru, so, ro, rfl, hf, cell_lt hf.cell0, lt_of_some hf.hu, lt_of_some hf.ho⟩
theorem FdG.kept {w w' : World} {base N n : Nat} {p : Value} {U O : List Int} {cl : Bool} (h : FdG w base N p n U O cl) (hb : ∀ k, k < N → w'.heap[k]? = w.heap[k]?) : FdG w' base N p n U O cl := by
  obtain ⟨g, cu, co, su, ru, so, ro, rfl, hf, h1, h2, h3⟩ := h
  refine ⟨g, cu, co, su, ru, so, ro, rfl, ⟨hf.n1, hf.n64, hf.g0, hf.cu0, hf.co0, hf.guc, hf.goc, hf.cuo, ?_, ?_, ?_, ?_, (hb _ h2).trans hf.hu, (hb _ h3).trans hf.ho, hf.lu, hf.lo⟩, h1, h2, h3⟩
  · rw [World.cell?_of_block (hb _ h1)]; exact hf.cell0
  · rw [World.cell?_of_block (hb _ h1)]; exact hf.cell1
  · rw [World.cell?_of_block (hb _ h1)]; exact hf.cell2
  · rw [World.frozen?_of_block (hb _ h1)]; exact hf.fz
/-- From this block on nothing has turned. -/
structure Sd (N : Nat) (w w' : World) : Prop where
  blk : ∀ k, N ≤ k → w'.heap[k]? = w.heap[k]?
  size : w'.heap.size = w.heap.size
theorem Sd.refl (N : Nat) (w : World) : Sd N w w := ⟨fun _ _ => rfl, rfl⟩
theorem Sd.chan {N c : Nat} (w : World) (h : c < N) (cap : Nat) (buf : Array Value) (cl : Bool) (s r : Nat) (tm : Bool) : Sd N w (w.setChan c cap buf cl s r tm) :=
  ⟨fun k hk => heap_setChan_ne _ _ _ _ _ _ _ _ _ (by omega), size_setChan _ _ _ _ _ _ _ _⟩
theorem putG (v : Int) (u : Bool) (w : World) {base N n : Nat} {p : Value} {U O : List Int} (h : FdG w base N p n U O false) :
    Calls Try.prog 10 #[p, .int .i64 v, .bool u] w fun e w' => e = .returned (.int .i64 (puE n U O false u)) ∧ FdG w' base N p n (puU n U false u v) (puO n O false u v) false ∧ Below base w w' ∧ Sd N w w' := by
  obtain ⟨g, cu, co, su, ru, so, ro, rfl, hf, l1, l2, l3⟩ := h
  cases u with
  | true =>
    by_cases hl : U.length < n
    · refine (putU_room v w hf hl).mono ?_
      rintro e w' ⟨rfl, rfl⟩
      refine ⟨by simp [puE, hl], ⟨g, cu, co, su + 1, ru, so, ro, rfl, ?_, l1, l2, l3⟩, below_setChan (Below.refl _ _) hf.cu0 _ _ _ _ _ _, Sd.chan _ l2 _ _ _ _ _ _⟩
      simpa [puU, puO, hl] using hf.setU (U ++ [v]) (by simp; omega) (su + 1) ru
    · refine (putU_full v w hf (by omega)).mono ?_
      rintro e w' ⟨rfl, rfl⟩
      refine ⟨by simp [puE, hl], ⟨g, cu, co, su, ru, so, ro, rfl, ?_, l1, l2, l3⟩, Below.refl _ _, Sd.refl _ _⟩
      simpa [puU, puO, hl] using hf
  | false =>
    by_cases hl : O.length < n
    · refine (putO_room v w hf hl).mono ?_
      rintro e w' ⟨rfl, rfl⟩
      refine ⟨by simp [puE, hl], ⟨g, cu, co, su, ru, so + 1, ro, rfl, ?_, l1, l2, l3⟩, below_setChan (Below.refl _ _) hf.co0 _ _ _ _ _ _, Sd.chan _ l3 _ _ _ _ _ _⟩
      simpa [puU, puO, hl] using hf.setO (O ++ [v]) (by simp; omega) (so + 1) ro
    · refine (putO_full v w hf (by omega)).mono ?_
      rintro e w' ⟨rfl, rfl⟩
      refine ⟨by simp [puE, hl], ⟨g, cu, co, su, ru, so, ro, rfl, ?_, l1, l2, l3⟩, Below.refl _ _, Sd.refl _ _⟩
      simpa [puU, puO, hl] using hf
theorem takeG (w : World) {base N n : Nat} {p : Value} {U O : List Int} {cl : Bool} (h : FdG w base N p n U O cl) :
    Calls Try.prog 12 #[p] w fun e w' => e = .returned (.tuple #[.int .i64 (tkV U O), .bool (tkB U), .int .i64 (tkE U O)]) ∧ FdG w' base N p n U.tail (tkO U O) cl ∧ Below base w w' ∧ Sd N w w' := by
  obtain ⟨g, cu, co, su, ru, so, ro, rfl, hf, l1, l2, l3⟩ := h
  match U, O, hf with
  | x :: U, O, hf =>
    refine (takeU x w hf).mono ?_
    rintro e w' ⟨rfl, rfl⟩
    exact ⟨rfl, ⟨g, cu, co, su, ru + 1, so, ro, rfl, hf.setU U (by have := hf.lu; simp at this; omega) su (ru + 1), l1, l2, l3⟩, below_setChan (Below.refl _ _) hf.cu0 _ _ _ _ _ _, Sd.chan _ l2 _ _ _ _ _ _⟩
  | [], x :: O, hf =>
    refine (takeO x w hf).mono ?_
    rintro e w' ⟨rfl, rfl⟩
    exact ⟨rfl, ⟨g, cu, co, su, ru, so, ro + 1, rfl, hf.setO O (by have := hf.lo; simp at this; omega) so (ro + 1), l1, l2, l3⟩, below_setChan (Below.refl _ _) hf.co0 _ _ _ _ _ _, Sd.chan _ l3 _ _ _ _ _ _⟩
  | [], [], hf =>
    refine (take_none w hf).mono ?_
    rintro e w' ⟨rfl, rfl⟩
    exact ⟨rfl, ⟨g, cu, co, su, ru, so, ro, rfl, hf, l1, l2, l3⟩, Below.refl _ _, Sd.refl _ _⟩
/-- The feed, the two boxes, the four rows. -/
structure FO (w wr : World) (N : Nat) (p : Value) (n : Nat) (V : Nat → Value) (X : Nat → List Int) (U O : List Int) : Prop where
  fd : FdG wr w.heap.size N p n U O false
  b0 : wr.heap[N]? = some (.cells #[V 0, V 1] 47)
  b1 : wr.heap[N + 1]? = some (.cells #[V 2, V 3] 47)
  rw : Rws wr (N + 2) 4 V X
  bl : Below w.heap.size w wr
theorem FO.lt {w wr : World} {N n : Nat} {p : Value} {V : Nat → Value} {X : Nat → List Int} {U O : List Int} (h : FO w wr N p n V X U O) : N + 1 < wr.heap.size := lt_of_some h.b1
theorem FO.below {w wr w' : World} {N n : Nat} {p : Value} {V : Nat → Value} {X : Nat → List Int} {U O : List Int} (h : FO w wr N p n V X U O) (hb : Below wr.heap.size wr w') : FO w w' N p n V X U O := by
  have hl := h.lt
  exact ⟨h.fd.kept (fun k hk => hb.block k (by omega)), (hb.block _ (by omega)).trans h.b0, (hb.block _ (by omega)).trans h.b1, h.rw.below hb, h.bl.trans (hb.mono h.bl.size)⟩
theorem FO.sd {w wr w' : World} {N n : Nat} {p : Value} {V : Nat → Value} {X : Nat → List Int} {U O U' O' : List Int} (h : FO w wr N p n V X U O) (hf : FdG w' w.heap.size N p n U' O' false) (hb : Below w.heap.size wr w') (hs : Sd N wr w') : FO w w' N p n V X U' O' :=
  ⟨hf, (hs.blk _ (by omega)).trans h.b0, (hs.blk _ (by omega)).trans h.b1, h.rw.kept (fun k hk _ => hs.blk k (by omega)), h.bl.trans hb⟩
theorem heap_setCell_at (w : World) (b o : Nat) (v : Value) (c : Array Value) (T : TypeId) (h : w.heap[b]? = some (.cells c T)) : (w.setCell ⟨b, o, none⟩ v).heap[b]? = some (.cells (c.setIfInBounds o v) T) := by
  simp [World.setCell, Array.getElem?_modify, h]
theorem FO.app {w wr w6 : World} {N n i : Nat} {p v' : Value} {V : Nat → Value} {X : Nat → List Int} {U O : List Int} {y : Int} (h : FO w wr N p n V X U O) (hN : w.heap.size ≤ N) (hi : i < 4)
    (ho : Own w6 (N + 2) v' (X i ++ [y])) (hg : wr.grownBy w6 (V i).ownBlock) (hbk : v'.ownBlock = (V i).ownBlock ∨ ∃ b, v'.ownBlock = some b ∧ wr.heap.size ≤ b) :
    FO w (w6.setCell ⟨N + i / 2, i % 2, none⟩ v') N p n (fup V i v') (fup X i (X i ++ [y])) U O := by
  have hl := h.lt
  have hlt := World.ownsRow.lt (h.rw.own i hi)
  have hne : ∀ k, k < N + 2 → w6.heap[k]? = wr.heap[k]? := fun k hk => hg.block k (by omega) (fun e => by have := (hlt k e.symm).1; omega)
  have hr6 : Rws w6 (N + 2) 4 (fup V i v') (fup X i (X i ++ [y])) := h.rw.app hi ho hg hbk
  have hb6 : Below w.heap.size wr w6 := ⟨hg.os, hg.tape, hg.output, hg.size, fun k hk => hne k (by omega)⟩
  refine ⟨h.fd.kept (fun k hk => (Below.heap_setCell _ _ _ _ (by simp; omega)).trans (hne k (by omega))), ?_, ?_, hr6.kept (fun k hk _ => Below.heap_setCell _ _ _ _ (by simp; omega)), (h.bl.trans hb6).setCell (by simp; omega) _⟩
  · have hc := (hne N (by omega)).trans h.b0
    match i, hi with
    | 0, _ => exact heap_setCell_at _ _ _ _ _ _ hc
    | 1, _ => exact heap_setCell_at _ _ _ _ _ _ hc
    | 2, _ => exact (Below.heap_setCell _ _ _ _ (by simp)).trans hc
    | 3, _ => exact (Below.heap_setCell _ _ _ _ (by simp)).trans hc
  · have hc := (hne (N + 1) (by omega)).trans h.b1
    match i, hi with
    | 0, _ => exact (Below.heap_setCell _ _ _ _ (by simp)).trans hc
    | 1, _ => exact (Below.heap_setCell _ _ _ _ (by simp)).trans hc
    | 2, _ => exact heap_setCell_at _ _ _ _ _ _ hc
    | 3, _ => exact heap_setCell_at _ _ _ _ _ _ hc
/-- The cells of the boxes. -/
theorem FO.cells {w wr : World} {N n : Nat} {p : Value} {V : Nat → Value} {X : Nat → List Int} {U O : List Int} (h : FO w wr N p n V X U O) :
    wr.cell? ⟨N, 0, none⟩ = some (V 0) ∧ wr.cell? ⟨N, 1, none⟩ = some (V 1) ∧ wr.cell? ⟨N + 1, 0, none⟩ = some (V 2) ∧ wr.cell? ⟨N + 1, 1, none⟩ = some (V 3) ∧ (∀ o, wr.frozen? ⟨N, o, none⟩ = false) ∧ (∀ o, wr.frozen? ⟨N + 1, o, none⟩ = false) := by
  refine ⟨?_, ?_, ?_, ?_, fun o => ?_, fun o => ?_⟩
  · simp [World.cell?, h.b0]
  · simp [World.cell?, h.b0]
  · simp [World.cell?, h.b1]
  · simp [World.cell?, h.b1]
  · simp [World.frozen?, h.b0]
  · simp [World.frozen?, h.b1]
end Go.Proofs.Ytkamambgpcdonaa
