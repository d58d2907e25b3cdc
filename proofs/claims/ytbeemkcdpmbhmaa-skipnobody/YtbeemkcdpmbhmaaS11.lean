/- The contracts of New, Len, Size, Freeze and Frozen. -/
import Derived.Test.YtbeemkcdpmbhmaaS10
namespace Go.Proofs.Ytbeemkcdpmbhmaa
open Go.RowKit

theorem new_any (w : World) : Calls Try.prog 5 #[] w fun e w' => ∃ L0, e = .returned (.pointer (some ⟨L0, 0, none⟩)) ∧ SK w' w.heap.size L0 [] false ∧ Below w.heap.size w w' := by
  go_enter Try.func5, Try.ntmps5
  go_wp2_with fail
  go_ret
  refine ⟨w.heap.size, rfl, ⟨[], ⟨⟨?_, fun i hi => (by simp at hi), fun i hi => (by simp at hi), Nat.le_refl _, fun x hx => (by cases hx), List.nodup_nil⟩, ⟨List.Pairwise.nil, fun x hx => (by cases hx), fun x hx => (by cases hx), fun x hx => (by cases hx), rfl, by simp⟩⟩, rfl⟩, (Below.refl _ _).alloc (Nat.le_refl _) _⟩
  refine (World.alloc_heap_new _ _).trans ?_
  congr 2
theorem SK.cells {w : World} {base L0 : Nat} {E : List En} {fr : Bool} (h : SK w base L0 E fr) : w.cell? ⟨L0, 17, none⟩ = some (.bool fr) ∧ w.cell? ⟨L0, 15, none⟩ = some (.int .i64 (E.length : Int)) ∧ w.cell? ⟨L0, 16, none⟩ = some (.int .i64 (sizE E : Nat)) ∧ L0 < w.heap.size := by
  obtain ⟨N, h1, rfl⟩ := h
  have := h1.frozen
  rw [show ((ents N).length : Int) = (N.length : Int) by simp [ents]]
  exact this
theorem len_any (L0 : Nat) (E : List En) (fr : Bool) (w : World) (base : Nat) (hS : SK w base L0 E fr) : Calls Try.prog 16 #[.pointer (some ⟨L0, 0, none⟩)] w fun e w' => e = .returned (.int .i64 (E.length : Int)) ∧ w' = w := by
  obtain ⟨_, c, _, _⟩ := hS.cells
  clear hS
  go_enter Try.func16, Try.ntmps16
  go_wp2_with fail
  go_ret
  exact ⟨rfl, rfl⟩
theorem size_any (L0 : Nat) (E : List En) (fr : Bool) (w : World) (base : Nat) (hS : SK w base L0 E fr) : Calls Try.prog 17 #[.pointer (some ⟨L0, 0, none⟩)] w fun e w' => e = .returned (.int .i64 (sizE E : Nat)) ∧ w' = w := by
  obtain ⟨_, _, c, _⟩ := hS.cells
  clear hS
  go_enter Try.func17, Try.ntmps17
  go_wp2_with fail
  go_ret
  exact ⟨rfl, rfl⟩
theorem frozen_any (L0 : Nat) (E : List En) (fr : Bool) (w : World) (base : Nat) (hS : SK w base L0 E fr) : Calls Try.prog 19 #[.pointer (some ⟨L0, 0, none⟩)] w fun e w' => e = .returned (.bool fr) ∧ w' = w := by
  obtain ⟨c, _, _, _⟩ := hS.cells
  clear hS
  go_enter Try.func19, Try.ntmps19
  go_wp2_with fail
  go_ret
  exact ⟨rfl, rfl⟩
theorem SLm.setFrozen {w : World} {base L0 : Nat} {N : List Nd} {F : Nat → Nat → Value} {n sz : Int} {fr : Bool} (h : SLm w base L0 N F n sz fr) (b : Bool) : SLm (w.setCell ⟨L0, 17, none⟩ (.bool b)) base L0 N F n sz b := by
  have hne : ∀ i (hi : i < N.length), N[i].b ≠ L0 := fun i hi e => by
    have := blk_inj h (p := i + 1) (q := 0) (by omega) (by omega) (by rw [blk_at hi]; exact e)
    omega
  refine ⟨?_, fun i hi => ?_, fun i hi => own7 L0 (h.ky i hi) h.hd (by decide) _ _, h.b0, h.bs, h.ne⟩
  · have := Go.heap_setCell_same w L0 17 _ _ (.bool b) h.hd
    simpa [hdc] using this
  · rw [Below.heap_setCell _ _ _ _ (hne i hi)]; exact h.nd i hi
theorem freeze_any (L0 : Nat) (E : List En) (fr : Bool) (w : World) (base : Nat) (hS : SK w base L0 E fr) : Calls Try.prog 13 #[.pointer (some ⟨L0, 0, none⟩)] w fun e w' => e = .returned (.int .i64 (if fr = true then 7 else 0)) ∧ SK w' base L0 E true ∧ Below base w w' := by
  obtain ⟨c, _, _, _⟩ := hS.cells
  have hfz : w.frozen? ⟨L0, 17, none⟩ = false := by obtain ⟨N, h1, _⟩ := hS; simp [World.frozen?, h1.1.hd]
  have HS : Hid (SK w base L0 E fr) := hS
  clear hS
  cases hfr : fr
  · rw [hfr] at c
    go_enter Try.func13, Try.ntmps13
    go_wp2_with fail
    go_ret
    obtain ⟨N, h1, h2⟩ := HS.out
    exact ⟨rfl, ⟨N, ⟨h1.1.setFrozen true, h1.2⟩, h2⟩, (Below.refl _ _).setCell h1.1.b0 _⟩
  · rw [hfr] at c HS
    go_enter Try.func13, Try.ntmps13
    go_wp2_with fail
    go_ret
    exact ⟨rfl, HS.out, Below.refl _ _⟩
end Go.Proofs.Ytbeemkcdpmbhmaa
