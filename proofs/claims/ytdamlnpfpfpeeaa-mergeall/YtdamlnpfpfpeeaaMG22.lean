/- How many of each row have been told, in memory; and what was told last. -/
import Derived.Test.YtdamlnpfpfpeeaaMG20
import Derived.Test.YtdamlnpfpfpeeaaMG13
namespace Go.Proofs.Ytdamlnpfpfpeeaa
open Go.RowKit Go.Joins

theorem infoInt : (Try.prog.info? 3).map (fun i => (i.zero, i.size, i.bytes)) = some (some (.int .i64 0), 1, 8) := by kernel_rfl
/-- A row of numbers. -/
def AtM (W : World) (g n : Nat) (c : Nat → Nat) : Prop := ∃ cur, W.heap[g]? = some (.cells cur 3) ∧ ∀ i, i < n → cur[i]? = some (.int .i64 (c i : Int))
theorem AtM.lt {W : World} {g n : Nat} {c : Nat → Nat} (h : AtM W g n c) : g < W.heap.size := by obtain ⟨cur, h1, _⟩ := h; exact (Array.getElem?_eq_some_iff.1 h1).1
theorem AtM.keep {W W' : World} {g n : Nat} {c : Nat → Nat} (h : AtM W g n c) (hk : W'.heap[g]? = W.heap[g]?) : AtM W' g n c := by
  obtain ⟨cur, h1, h2⟩ := h
  exact ⟨cur, hk.trans h1, h2⟩
theorem AtM.cell {W : World} {g n : Nat} {c : Nat → Nat} (h : AtM W g n c) {i : Nat} (hi : i < n) : W.cell? ⟨g, i, none⟩ = some (.int .i64 (c i : Int)) ∧ W.frozen? ⟨g, i, none⟩ = false := by
  obtain ⟨cur, h1, h2⟩ := h
  have h3 := Array.getElem?_eq_some_iff.1 (h2 i hi)
  obtain ⟨q1, q2⟩ := cell_row h1 i h3.1
  exact ⟨by rw [q1, h3.2], q2⟩
theorem AtM.made {w w0 : World} {base n : Nat} (h : w0.ownsRow base 3 1 (.slice (some ⟨w.heap.size, 0, none⟩) n n) n (madeCells (Value.int .i64 0).cells (n * 1)).toList) : AtM w0 w.heap.size n (fun _ => 0) := by
  rcases h.2 with ⟨q, _⟩ | ⟨g, cap, cur, hv, _, hw, _, _, hs, ht⟩
  · simp at q
  · simp at hv
    obtain ⟨rfl, rfl⟩ := hv
    refine ⟨cur, hw, fun i hi => ?_⟩
    have h1 : (cur.toList.take (n * 1))[i]? = (madeCells (Value.int .i64 0).cells (n * 1)).toList[i]? := by rw [ht]
    rw [List.getElem?_take, if_pos (by omega)] at h1
    rw [← Array.getElem?_toList, h1]
    simp [madeCells, Value.cells, hi, Nat.mod_one]
theorem AtM.set {W : World} {g n : Nat} {c c' : Nat → Nat} (h : AtM W g n c) {i : Nat} (hi : i < n) (hc : ∀ j, j < n → c' j = if i = j then c j + 1 else c j) : AtM (W.setCell ⟨g, i, none⟩ (.int .i64 ((c i : Int) + 1))) g n c' := by
  obtain ⟨cur, h1, h2⟩ := h
  refine ⟨_, heap_setCell_same W g i cur _ _ h1, fun j hj => ?_⟩
  rw [hc j hj]
  have hs := (Array.getElem?_eq_some_iff.1 (h2 i hi)).1
  by_cases e : i = j
  · subst e
    rw [if_pos rfl]
    simp [hs]
  · rw [if_neg e, Array.getElem?_setIfInBounds_ne e]
    exact h2 j hj
/-- What was told last. -/
def LastO (W : World) (lo : Nat) (D : List Tg) (lv fv : Value) : Prop := match D.getLast? with
  | none => lv = .slice none 0 0 ∧ fv = .int .i64 (-1)
  | some t => Own W lo lv t.1.1 ∧ fv = .int .i64 (t.1.2 : Int)
theorem LastO.keep {A B : World} {lo : Nat} {D : List Tg} {lv fv : Value} (h : LastO A lo D lv fv) (hk : ∀ (k : Nat) (cs : Array Value) (fr : Nat × Nat), A.heap[k]? = some (Obj.cells cs 5 fr) → B.heap[k]? = some (Obj.cells cs 5 fr)) : LastO B lo D lv fv := by
  unfold LastO at *
  split at h
  · exact h
  · exact ⟨own_kp h.1 hk, h.2⟩
theorem LastO.snoc {W : World} {lo : Nat} {D : List Tg} {t : Tg} {lv : Value} (h : Own W lo lv t.1.1) : LastO W lo (D ++ [t]) lv (.int .i64 (t.1.2 : Int)) := by
  unfold LastO
  rw [List.getLast?_append]
  exact ⟨h, rfl⟩
/-- What the loop keeps. -/
structure OnI (rs : List (List En)) (w : World) (hh h g : Nat) (D T : List Tg) (lv fv : Value) (W : World) : Prop where
  s : seqF rs = D ++ T
  q : HS W w.heap.size hh h T
  a : AtM W g rs.length (cntD D)
  l : LastO W w.heap.size D lv fv
  b : Below w.heap.size w W
  z : w.heap.size ≤ hh ∧ hh ≤ g
/-- The next one is told, into a new box. -/
theorem on_next {rs : List (List En)} {w wr w7 W : World} {hh h g : Nat} {D T : List Tg} {t : Tg} {lv fv kv : Value} {b0 : Array Value} {a : Ag} (H : OnI rs w hh h g D (t :: T) lv fv wr) (hf : Fr w.heap.size hh wr w7) (hs : HS w7 w.heap.size hh h T) (ho : Own w7 w.heap.size kv t.1.1)
    (hW : StW (w7.alloc (.cells b0 36)) W w7.heap.size 0 b0 36 (c7 ⟨kv, [], a⟩)) (hb0 : b0.size = 7) :
    Below w.heap.size w W ∧ HS W w.heap.size hh h T ∧ AtM W g rs.length (cntD D) ∧ LastO W w.heap.size D lv fv ∧ Own W w.heap.size kv t.1.1 ∧ W.heap[w7.heap.size]? = some (.cells (c7 ⟨kv, [], a⟩).toArray 36) ∧ w7.heap.size ≠ g := by
  have hgl := H.a.lt
  have hsz := hf.b.size
  have hk : ∀ k, k < w7.heap.size → W.heap[k]? = w7.heap[k]? := fun k hk => (hW.o k (by omega)).trans (Below.heap_alloc _ _ _ hk)
  have hu : ∀ (k : Nat) (cs : Array Value) (fr : Nat × Nat), w7.heap[k]? = some (Obj.cells cs 5 fr) → W.heap[k]? = some (Obj.cells cs 5 fr) := fun k cs fr q => (hk k (Array.getElem?_eq_some_iff.1 q).1).trans q
  have hWs : w7.heap.size ≤ W.heap.size := by have := (hW.b 0 (Nat.zero_le _)).size; simp at this; omega
  have hz7 := hs.z
  have hz := H.z
  have hbW : Below w7.heap.size w7 W := ((Below.refl _ _).alloc (Nat.le_refl _) _).trans (hW.b _ (Nat.le_refl _))
  refine ⟨(H.b.trans hf.b).trans (hbW.mono (by have := H.b.size; omega)), hs.below hbW, H.a.keep ((hk g (by omega)).trans (hf.h g hz.2 hgl)), (H.l.keep hf.u).keep hu, own_kp ho hu, ?_, by omega⟩
  obtain ⟨cur', k1, k2, k3, k4⟩ := hW.c
  rw [k1, cur7 (vs := c7 ⟨kv, [], a⟩) (by rw [k2, hb0]; rfl) k4]
end Go.Proofs.Ytdamlnpfpfpeeaa
