/- The walk of AggSticky: whatever is known, it returns true. -/
import Derived.Test.YticooiibjpgfmaaA4
import Derived.Test.YticooiibjpgfmaaOA
namespace Go.Proofs.Yticooiibjpgfmaa
open Go.RowKit

/-- A box of what is known, whole. -/
def FBox (a : Ag) (b : Nat) (w : World) : Prop := b < w.heap.size ∧ w.cell? ⟨b, 0, none⟩ = some (.int .u64 a.c) ∧ w.cell? ⟨b, 1, none⟩ = some (.bool a.o) ∧ w.cell? ⟨b, 2, none⟩ = some (.int .i64 (hi a.s)) ∧ w.cell? ⟨b, 3, none⟩ = some (.int .u64 (lo a.s)) ∧ w.cell? ⟨b, 4, none⟩ = some (.int .i64 a.mn) ∧ w.cell? ⟨b, 5, none⟩ = some (.int .i64 a.mx)
theorem FBox.below {a : Ag} {b : Nat} {w1 w2 : World} (h : FBox a b w1) (hb : Below w1.heap.size w1 w2) : FBox a b w2 := by
  obtain ⟨h0, h1, h2, h3, h4, h5, h6⟩ := h
  have := hb.size
  exact ⟨by omega, bcellA hb h0 h1, bcellA hb h0 h2, bcellA hb h0 h3, bcellA hb h0 h4, bcellA hb h0 h5, bcellA hb h0 h6⟩
theorem FBox.al {a : Ag} {b : Nat} {w1 : World} {o : Obj} (h : FBox a b w1) : FBox a b (w1.alloc o) := by
  obtain ⟨h0, h1, h2, h3, h4, h5, h6⟩ := h
  exact ⟨by simp; omega, cell_al h1 h0, cell_al h2 h0, cell_al h3 h0, cell_al h4 h0, cell_al h5 h0, cell_al h6 h0⟩
theorem FBox.new (a : Ag) (w : World) : FBox a w.heap.size (w.alloc (.cells #[.int .u64 a.c, .bool a.o, .int .i64 (hi a.s), .int .u64 (lo a.s), .int .i64 a.mn, .int .i64 a.mx] 28)) := by
  refine ⟨by simp, ?_, ?_, ?_, ?_, ?_, ?_⟩ <;> simp

theorem FBox.new1 (a : Ag) (o : Obj) (w : World) : FBox a (w.heap.size + 1) ((w.alloc o).alloc (.cells #[.int .u64 a.c, .bool a.o, .int .i64 (hi a.s), .int .u64 (lo a.s), .int .i64 a.mn, .int .i64 a.mx] 28)) := by
  have h := FBox.new a (w.alloc o)
  rw [World.size_alloc] at h
  exact h
theorem right_cases (a : Ag) (h : rightB a = true) : (a.c = 0 ∧ a.o = false) ∨ (a.c ≠ 0 ∧ a.mn ≤ a.mx ∧ (a.o = false ∨ a.c = 18446744073709551615)) := by
  unfold rightB at h
  by_cases hc : a.c = 0
  · rw [if_pos hc] at h
    left; refine ⟨hc, ?_⟩
    cases ho : a.o
    · rfl
    · rw [ho] at h; simp at h
  · rw [if_neg hc] at h
    right; refine ⟨hc, ?_, ?_⟩
    · simp at h; exact h.1
    · simp at h; exact h.2
theorem sticky_over (a b : Ag) (ha : rightB a = true) (hb : rightB b = true) (a1 : AgOk a) (b1 : AgOk b) (ho : a.o = true ∨ b.o = true) : (mrg a b).o = true ∧ (mrg a b).c = 18446744073709551615 := by
  have ac := right_cases a ha; have bc := right_cases b hb
  have := a1.c1; have := a1.c2; have := b1.c1; have := b1.c2
  by_cases h1 : a.c = 0
  · have e : mrg a b = b := by unfold mrg; rw [if_pos h1]
    have hao : a.o = false := by rcases ac with ⟨_, h⟩ | ⟨h, _⟩; exact h; exact absurd h1 h
    have hbo : b.o = true := by rcases ho with h | h; rw [hao] at h; cases h; exact h
    rw [e]; refine ⟨hbo, ?_⟩
    rcases bc with ⟨_, h⟩ | ⟨_, _, h | h⟩
    · rw [hbo] at h; cases h
    · rw [hbo] at h; cases h
    · exact h
  · by_cases h2 : b.c = 0
    · have e : mrg a b = a := by unfold mrg; rw [if_neg h1, if_pos h2]
      have hbo : b.o = false := by rcases bc with ⟨_, h⟩ | ⟨h, _⟩; exact h; exact absurd h2 h
      have hao : a.o = true := by rcases ho with h | h; exact h; rw [hbo] at h; cases h
      rw [e]; refine ⟨hao, ?_⟩
      rcases ac with ⟨_, h⟩ | ⟨_, _, h | h⟩
      · rw [hao] at h; cases h
      · rw [hao] at h; cases h
      · exact h
    · rw [mrg_both a b h1 h2]
      have hbig : 18446744073709551616 ≤ a.c + b.c := by
        rcases ho with h | h
        · rcases ac with ⟨_, g⟩ | ⟨_, _, g | g⟩
          · rw [h] at g; cases g
          · rw [h] at g; cases g
          · omega
        · rcases bc with ⟨_, g⟩ | ⟨_, _, g | g⟩
          · rw [h] at g; cases g
          · rw [h] at g; cases g
          · omega
      refine ⟨?_, ?_⟩
      · show (ovF a.c b.c || a.o || b.o) = true
        rcases ho with h | h <;> simp [h]
      · show cntF a.c b.c = _
        unfold cntF; rw [if_neg (by omega)]
theorem sticky_more (a b : Ag) (g1 : a.o = false) (g2 : b.o = false) (g3 : (mrg a b).o = true) : 18446744073709551615 - b.c < a.c ∧ (mrg a b).c = 18446744073709551615 := by
  by_cases h1 : a.c = 0
  · have e : mrg a b = b := by unfold mrg; rw [if_pos h1]
    rw [e, g2] at g3; cases g3
  · by_cases h2 : b.c = 0
    · have e : mrg a b = a := by unfold mrg; rw [if_neg h1, if_pos h2]
      rw [e, g1] at g3; cases g3
    · rw [mrg_both a b h1 h2] at g3 ⊢
      have g4 : (ovF a.c b.c || a.o || b.o) = true := g3
      rw [g1, g2] at g4
      have hbig : 18446744073709551616 ≤ a.c + b.c := by simpa [ovF] using g4
      refine ⟨by omega, ?_⟩
      show cntF a.c b.c = _
      unfold cntF; rw [if_neg (by omega)]
theorem sticky_exact (a b : Ag) (g3 : (mrg a b).o = false) : (mrg a b).c = a.c + b.c := by
  by_cases h1 : a.c = 0
  · have e : mrg a b = b := by unfold mrg; rw [if_pos h1]
    rw [e, h1]; omega
  · by_cases h2 : b.c = 0
    · have e : mrg a b = a := by unfold mrg; rw [if_neg h1, if_pos h2]
      rw [e, h2]; omega
    · rw [mrg_both a b h1 h2] at g3 ⊢
      have g4 : (ovF a.c b.c || a.o || b.o) = false := g3
      have hsm : a.c + b.c < 18446744073709551616 := by
        have : ovF a.c b.c = false := by cases h : ovF a.c b.c; rfl; rw [h] at g4; simp at g4
        simpa [ovF] using this
      show cntF a.c b.c = _
      unfold cntF; rw [if_pos hsm]
end Go.Proofs.Yticooiibjpgfmaa
