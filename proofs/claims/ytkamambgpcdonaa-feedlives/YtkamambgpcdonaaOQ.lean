/- Rows of numbers of one's own, from any place of their array on. -/
import Derived.Test.YtkamambgpcdonaaAO
import Derived.ArgAppend
namespace Go.Proofs.Ytkamambgpcdonaa
open Go.RowKit

def OwnQ (w : World) (base M : Nat) (v : Value) (l : List Int) : Prop :=
  (v = .slice none 0 0 ∧ l = []) ∨ ∃ g off cap cur, v = .slice (some ⟨g, off, none⟩) l.length cap ∧ base ≤ g ∧ g < M ∧ w.heap[g]? = some (.cells cur 3) ∧ l.length ≤ cap ∧ cap ≤ maxLen ∧ off + cap ≤ cur.size ∧ ∀ j (h : j < l.length), cur[off + j]? = some (.int .i64 l[j])
theorem OwnQ.nil (w : World) (base M : Nat) : OwnQ w base M (.slice none 0 0) [] := .inl ⟨rfl, rfl⟩
theorem OwnQ.form {w : World} {base M : Nat} {v : Value} {l : List Int} (h : OwnQ w base M v l) : ∃ a cap, v = .slice a l.length cap := by
  rcases h with ⟨rfl, rfl⟩ | ⟨g, off, cap, cur, rfl, _⟩
  · exact ⟨none, 0, rfl⟩
  · exact ⟨_, cap, rfl⟩
theorem OwnQ.blk {w : World} {base M : Nat} {v : Value} {l : List Int} (h : OwnQ w base M v l) : ∀ k, v.ownBlock = some k → base ≤ k ∧ k < M := by
  intro k hk
  rcases h with ⟨rfl, rfl⟩ | ⟨g, off, cap, cur, rfl, h1, h2, _⟩
  · simp [Value.ownBlock] at hk
  · simp [Value.ownBlock] at hk
    subst hk; exact ⟨h1, h2⟩
theorem OwnQ.kept {w w' : World} {base M M' : Nat} {v : Value} {l : List Int} (h : OwnQ w base M v l) (hM : M ≤ M') (hb : ∀ k, v.ownBlock = some k → w'.heap[k]? = w.heap[k]?) : OwnQ w' base M' v l := by
  rcases h with h | ⟨g, off, cap, cur, rfl, h1, h2, h3, h4⟩
  · exact .inl h
  · exact .inr ⟨g, off, cap, cur, rfl, h1, by omega, (hb g rfl).trans h3, h4⟩
theorem OwnQ.head {w : World} {base M : Nat} {a : Option Addr} {n cap : Nat} {l : List Int} (h : OwnQ w base M (.slice a n cap) l) (h0 : 0 < l.length) : ∃ b off, a = some ⟨b, off, none⟩ ∧ w.cell? ⟨b, off, none⟩ = some (.int .i64 l[0]) := by
  rcases h with ⟨h, rfl⟩ | ⟨g, off, cap', cur, hv, h1, h2, h3, h4, h5, h6, h7⟩
  · simp at h0
  · simp at hv
    obtain ⟨rfl, rfl, rfl⟩ := hv
    refine ⟨g, off, rfl, ?_⟩
    have := h7 0 h0
    simpa [World.cell?, h3] using this
/-- One number, just laid, behind them. -/
theorem run_appQ {w0 : World} (base M : Nat) (ty T : TypeId) (v : Value) (L : List Int) (y : Int) (h : OwnQ w0 base M v L) (hlen : L.length + 1 ≤ 17592186044416) (hbase : base ≤ w0.heap.size) (hM : M ≤ w0.heap.size) :
    ∃ v' w', (Builtin.append_ #[38, 38] ty #[v, .slice (some ⟨w0.heap.size, 0, none⟩) 1 1]).run Try.prog (w0.alloc (.cells #[.int .i64 y] T)) = .ok v' w' ∧ OwnQ w' base w'.heap.size v' (L ++ [y]) ∧ w0.grownBy w' v.ownBlock ∧
      (v'.ownBlock = v.ownBlock ∨ ∃ b, v'.ownBlock = some b ∧ w0.heap.size ≤ b) := by
  obtain ⟨i0, hi, hz0, hz1, hz2⟩ := info_parts info5
  have ofOwn : ∀ {w' : World} {v' : Value} {l : List Int}, Own w' base v' l → OwnQ w' base w'.heap.size v' l := by
    intro w' v' l ho
    have hlt := World.ownsRow.lt ho
    obtain ⟨h1, h2⟩ := ho
    rcases h2 with ⟨rfl, h0⟩ | ⟨g, cap, cur, rfl, hg, hw, hn, hm, hs, ht⟩
    · exact .inl ⟨rfl, List.length_eq_zero_iff.1 h0⟩
    · refine .inr ⟨g, 0, cap, cur, rfl, hg, (hlt g rfl).2, hw, hn, hm, by omega, fun j hj => ?_⟩
      have : (cur.toList.take (l.length * 1))[j]? = (l.map ic)[j]? := by rw [ht]
      rw [List.getElem?_take, if_pos (by omega)] at this
      simpa [hj, ic] using this
  rcases h with ⟨rfl, rfl⟩ | ⟨g, off, cap, cur, rfl, h1, h2, h3, h4, h5, h6, h7⟩
  · obtain ⟨v', w', hr, ho, hg, hb⟩ := run_appI (w0 := w0) base ty T (.slice none 0 0) [] y (Own.nil _ _) (by simp) hbase
    exact ⟨v', w', hr, ofOwn ho, hg, hb⟩
  · have hgl : g < w0.heap.size := by omega
    have hg0 : (w0.alloc (.cells #[.int .i64 y] T)).heap[g]? = some (.cells cur 3) := (Below.heap_alloc _ _ _ hgl).trans h3
    by_cases hroom : L.length + 1 ≤ cap
    · have hin : off + L.length < cur.size := by omega
      have hr := run_append_room_cells (P := Try.prog) (w0.alloc (.cells #[.int .i64 y] T)) 38 ty 3 i0 Try.underlying38 hi g off L.length cap ⟨w0.heap.size, 0, none⟩ 1 1 [ic y] (by rw [hz1]; rfl) (news1 (w := w0) (x := ic y) (t := T)) (fun u hu => by simp at hu; subst hu; rfl) hroom
        (by intro j hj; simp at hj; subst hj; rw [hz1]; simp [World.cell?, hg0, hin])
        (by intro j hj; simp at hj; subst hj; simp [World.frozen?, hg0])
      refine ⟨_, _, hr, .inr ⟨g, off, cap, cur.setIfInBounds (off + L.length) (ic y), by simp, h1, ?_, ?_, by simp; exact hroom, h5, by simp; exact h6, fun j hj => ?_⟩, ⟨rfl, rfl, rfl, ?_, fun k hk hne => ?_⟩, .inl rfl⟩
      · rw [hz1]; simp [World.setCells, World.setCell]; omega
      · rw [hz1]
        simp [World.setCells, World.setCell, Array.getElem?_modify, hg0]
      · simp at hj
        rcases Nat.lt_or_ge j L.length with hl | hl
        · rw [Array.getElem?_setIfInBounds_ne (by omega), h7 j hl]
          simp [hl]
        · have : j = L.length := by omega
          subst this
          simp [hin, ic]
      · rw [hz1]; simp [World.setCells, World.setCell]
      · rw [hz1]
        have hne' : k ≠ g := fun e => hne (by subst e; rfl)
        simp only [World.setCells]
        rw [Below.heap_setCell _ _ _ _ hne']
        exact Below.heap_alloc _ _ _ hk
    · obtain ⟨v', w', hr, ho, hg⟩ := run_append_arg_grows (P := Try.prog) (w0.alloc (.cells #[.int .i64 y] T)) 38 ty 3 i0 (.int .i64 0) 1 8 Try.underlying38 hi hz0 hz1 hz2 rfl (by decide) ⟨g, off, none⟩ L.length cap (L.map ic) (by simp)
        (by
          intro j u hj
          rw [List.getElem?_map] at hj
          rcases Nat.lt_or_ge j L.length with hl | hl
          · rw [List.getElem?_eq_getElem hl] at hj
            simp at hj; subst hj
            have ea : (⟨g, off, none⟩ : Addr).add j = ⟨g, off + j, none⟩ := by simp [Addr.add]
            rw [ea]
            simpa [World.cell?, hg0, ic] using h7 j hl
          · rw [List.getElem?_eq_none hl] at hj; simp at hj)
        ⟨w0.heap.size, 0, none⟩ 1 1 [ic y] (by simp) (news1 (w := w0) (x := ic y) (t := T)) (by omega) (by simp [maxLen] at *; omega) (by omega)
      have hown : Own w' (w0.heap.size + 1) v' (L ++ [y]) := by
        unfold Own
        rw [List.length_append, List.map_append]
        simpa using ho
      refine ⟨v', w', hr, ofOwn (hown.mono (by omega)), ⟨hg.os, hg.tape, hg.output, ?_, fun k hk _ => ?_⟩, ?_⟩
      · have := hg.size; simp at this; omega
      · rw [hg.block k (by simp; omega) (by simp)]; exact Below.heap_alloc _ _ _ hk
      · right
        rcases hown.2 with ⟨rfl, hn⟩ | ⟨g', cap', cur', rfl, hb, _⟩
        · simp at hn
        · exact ⟨g', rfl, by omega⟩
theorem elemI : Try.prog.elem 38 = 3 := by kernel_rfl
theorem undI : Try.prog.underlying 38 = some (.slice (Try.prog.elem 38)) := by rw [elemI]; exact Try.underlying38
theorem sizeI (w : World) : (sizeOf 3).run Try.prog w = .ok 1 w := by
  simp [sizeOf]
  rfl
/-- All but the first. -/
theorem OwnQ.tail {w : World} {base M : Nat} {a : Option Addr} {cap : Nat} {y : Int} {L : List Int} (h : OwnQ w base M (.slice a (L.length + 1) cap) (y :: L)) :
    ∃ a' cap', (∀ w', (Instr.slice 38 (.slice a (L.length + 1) cap) (some (.int .i64 1)) none none).run Try.prog w' = .ok (.slice a' L.length cap') w') ∧ OwnQ w base M (.slice a' L.length cap') L ∧ (Value.slice a' L.length cap').ownBlock = (Value.slice a (L.length + 1) cap).ownBlock := by
  rcases h with ⟨h, hl⟩ | ⟨g, off, cap', cur, hv, h1, h2, h3, h4, h5, h6, h7⟩
  · simp at hl
  · simp at hv h4
    obtain ⟨rfl, rfl⟩ := hv
    refine ⟨(if cap = 1 then some ⟨g, off, none⟩ else (some (⟨g, off, none⟩ : Addr)).map (·.add (1 * 1))), cap - 1, fun w' => ?_, ?_, ?_⟩
    · have := run_slice_l (P := Try.prog) w' 38 (some ⟨g, off, none⟩) (L.length + 1) cap undI .i64 1 (by omega) (by omega)
      simp only [elemI, sizeI] at this
      simpa [Go.sliced] using this
    · by_cases e : cap = 1
      · subst e
        have hL : L = [] := List.length_eq_zero_iff.1 (by omega)
        subst hL
        exact .inr ⟨g, off, 0, cur, rfl, h1, h2, h3, by simp, by simp, by omega, fun j hj => by simp at hj⟩
      · rw [if_neg e]
        refine .inr ⟨g, off + 1, cap - 1, cur, by simp [Addr.add], h1, h2, h3, by omega, by omega, by omega, fun j hj => ?_⟩
        have := h7 (j + 1) (by simp; omega)
        rw [show off + 1 + j = off + (j + 1) by omega, this]
        simp
    · by_cases e : cap = 1 <;> simp [e, Value.ownBlock, Addr.add]
end Go.Proofs.Ytkamambgpcdonaa
