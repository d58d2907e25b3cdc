/- AggMonoid's third region: two parts put together, each into a box of its own, in whatever order they come. -/
import Derived.Test.YticooiibjpgfmaaAM1
import Derived.Test.YticooiibjpgfmaaRI2
import Derived.Test.YticooiibjpgfmaaSS
namespace Go.Proofs.Yticooiibjpgfmaa
open Go.RowKit

/-- A box with room for what is known. -/
def Bx (n0 : Nat) (v : Value) (w : World) : Prop := ∃ b, v = .pointer (some ⟨b, 0, none⟩) ∧ n0 ≤ b ∧ b < w.heap.size ∧ ∃ cs T, w.heap[b]? = some (.cells cs T) ∧ cs.size = 6
def Fx (n0 : Nat) (a : Ag) (v : Value) (w : World) : Prop := ∃ b, v = .pointer (some ⟨b, 0, none⟩) ∧ n0 ≤ b ∧ FBox a b w
theorem Bx.below {n0 : Nat} {v : Value} {w1 w2 : World} (h : Bx n0 v w1) (hb : Below w1.heap.size w1 w2) : Bx n0 v w2 := by
  obtain ⟨b, e, h0, h1, cs, T, h2, h3⟩ := h
  exact ⟨b, e, h0, by have := hb.size; omega, cs, T, (hb.block b h1).trans h2, h3⟩
theorem Fx.below {n0 : Nat} {a : Ag} {v : Value} {w1 w2 : World} (h : Fx n0 a v w1) (hb : Below w1.heap.size w1 w2) : Fx n0 a v w2 := by
  obtain ⟨b, e, h0, h1⟩ := h
  exact ⟨b, e, h0, h1.below hb⟩
theorem FBox.same {a : Ag} {b : Nat} {w1 w2 : World} (h : FBox a b w1) (hs : w1.heap.size ≤ w2.heap.size) (he : w2.heap[b]? = w1.heap[b]?) : FBox a b w2 := by
  obtain ⟨h0, h1, h2, h3, h4, h5, h6⟩ := h
  have hc : ∀ o, w2.cell? ⟨b, o, none⟩ = w1.cell? ⟨b, o, none⟩ := fun o => by simp only [World.cell?, he]
  exact ⟨by omega, (hc _).trans h1, (hc _).trans h2, (hc _).trans h3, (hc _).trans h4, (hc _).trans h5, (hc _).trans h6⟩
theorem Bx.store {n0 : Nat} {v : Value} {w W : World} {g : Nat} {cur : Array Value} {T : TypeId} {vs : List Value} (h : Bx n0 v w) (hc : cur.size = 6) (hS : StW w W g 0 cur T vs) : Bx n0 v W := by
  obtain ⟨b, e, h0, h1, cs, T2, h2, h3⟩ := h
  have hsz := (hS.b 0 (Nat.zero_le _)).size
  by_cases hb : b = g
  · subst hb
    obtain ⟨cur', c1, c2, _⟩ := hS.c
    exact ⟨b, e, h0, by omega, cur', T, c1, by omega⟩
  · exact ⟨b, e, h0, by omega, cs, T2, (hS.o b hb).trans h2, h3⟩
theorem Fx.store {n0 : Nat} {a : Ag} {v : Value} {w W : World} {g : Nat} {cur : Array Value} {T : TypeId} {vs : List Value} (h : Fx n0 a v w) (hne : v ≠ .pointer (some ⟨g, 0, none⟩)) (hS : StW w W g 0 cur T vs) : Fx n0 a v W := by
  obtain ⟨b, e, h0, h1⟩ := h
  have hb : b ≠ g := fun e2 => hne (by rw [e, e2])
  exact ⟨b, e, h0, h1.same (hS.b 0 (Nat.zero_le _)).size (hS.o b hb)⟩
theorem Fx.mk {n0 : Nat} {a : Ag} {w W : World} {g : Nat} {cur : Array Value} {T : TypeId} (h0 : n0 ≤ g) (hg : g < w.heap.size) (hS : StW w W g 0 cur T [.int .u64 a.c, .bool a.o, .int .i64 (hi a.s), .int .u64 (lo a.s), .int .i64 a.mn, .int .i64 a.mx]) : Fx n0 a (.pointer (some ⟨g, 0, none⟩)) W := by
  have hsz := (hS.b 0 (Nat.zero_le _)).size
  obtain ⟨cur', c1, c2, _, c4⟩ := hS.c
  have hc : ∀ o, W.cell? ⟨g, o, none⟩ = cur'[o]? := fun o => by simp [World.cell?, c1]
  refine ⟨g, rfl, h0, by omega, ?_, ?_, ?_, ?_, ?_, ?_⟩
  · rw [hc]; exact c4 0 (by simp)
  · rw [hc]; exact c4 1 (by simp)
  · rw [hc]; exact c4 2 (by simp)
  · rw [hc]; exact c4 3 (by simp)
  · rw [hc]; exact c4 4 (by simp)
  · rw [hc]; exact c4 5 (by simp)
/-- What each of its operations yields. -/
def mV (a b c : Ag) (n0 : Nat) : Nat → (Nat → Value) → World → Prop
  | 0, g, _ => g 0 = av a
  | 1, g, _ => g 1 = av b
  | 2, g, _ => g 2 = av (mrg a b)
  | 3, g, _ => g 3 = av c
  | 4, g, _ => g 4 = av (mrg (mrg a b) c)
  | 5, g, _ => g 5 = av a
  | 6, g, _ => g 6 = av b
  | 7, g, _ => g 7 = av c
  | 8, g, _ => g 8 = av (mrg b c)
  | 9, g, _ => g 9 = av (mrg a (mrg b c))
  | 10, g, w => Bx n0 (g 10) w
  | 11, g, w => Bx n0 (g 11) w
  | 12, g, w => Fx n0 (mrg (mrg a b) c) (g 10) w
  | 13, g, w => Fx n0 (mrg a (mrg b c)) (g 11) w
  | _, _, _ => True
theorem mV.below {a b c : Ag} {n0 : Nat} {j : Nat} {g : Nat → Value} {w1 w2 : World} (hb : Below w1.heap.size w1 w2) (h : mV a b c n0 j g w1) : mV a b c n0 j g w2 := by
  match j, h with
  | 0, h => exact h
  | 1, h => exact h
  | 2, h => exact h
  | 3, h => exact h
  | 4, h => exact h
  | 5, h => exact h
  | 6, h => exact h
  | 7, h => exact h
  | 8, h => exact h
  | 9, h => exact h
  | 10, h => exact Bx.below h hb
  | 11, h => exact Bx.below h hb
  | 12, h => exact Fx.below h hb
  | 13, h => exact Fx.below h hb
  | _ + 14, _ => trivial
theorem mV.store {a b c : Ag} {n0 : Nat} {j : Nat} {g : Nat → Value} {w1 W : World} {x : Nat} {cs : Array Value} {T : TypeId} {vs : List Value} (hS : StW w1 W x 0 cs T vs) (hc : cs.size = 6)
    (k12 : Fx n0 (mrg (mrg a b) c) (g 10) w1 → Fx n0 (mrg (mrg a b) c) (g 10) W) (k13 : Fx n0 (mrg a (mrg b c)) (g 11) w1 → Fx n0 (mrg a (mrg b c)) (g 11) W) (h : mV a b c n0 j g w1) : mV a b c n0 j g W := by
  match j, h with
  | 0, h => exact h
  | 1, h => exact h
  | 2, h => exact h
  | 3, h => exact h
  | 4, h => exact h
  | 5, h => exact h
  | 6, h => exact h
  | 7, h => exact h
  | 8, h => exact h
  | 9, h => exact h
  | 10, h => exact Bx.store h hc hS
  | 11, h => exact Bx.store h hc hS
  | 12, h => exact k12 h
  | 13, h => exact k13 h
  | _ + 14, _ => trivial
theorem mV.loc {a b c : Ag} {n0 : Nat} {j : Nat} {g g' : Nat → Value} {w : World} (hj : g j = g' j) (h10 : j = 12 → g 10 = g' 10) (h11 : j = 13 → g 11 = g' 11) (h : mV a b c n0 j g w) : mV a b c n0 j g' w := by
  match j, hj, h10, h11, h with
  | 0, hj, _, _, h => exact hj.symm.trans h
  | 1, hj, _, _, h => exact hj.symm.trans h
  | 2, hj, _, _, h => exact hj.symm.trans h
  | 3, hj, _, _, h => exact hj.symm.trans h
  | 4, hj, _, _, h => exact hj.symm.trans h
  | 5, hj, _, _, h => exact hj.symm.trans h
  | 6, hj, _, _, h => exact hj.symm.trans h
  | 7, hj, _, _, h => exact hj.symm.trans h
  | 8, hj, _, _, h => exact hj.symm.trans h
  | 9, hj, _, _, h => exact hj.symm.trans h
  | 10, hj, _, _, h => show Bx n0 (g' 10) w; rw [← hj]; exact h
  | 11, hj, _, _, h => show Bx n0 (g' 11) w; rw [← hj]; exact h
  | 12, _, h10, _, h => show Fx n0 _ (g' 10) w; rw [← h10 rfl]; exact h
  | 13, _, _, h11, h => show Fx n0 _ (g' 11) w; rw [← h11 rfl]; exact h
  | _ + 14, _, _, _, _ => trivial
theorem mV.box {a b c : Ag} {n0 : Nat} {j : Nat} {g : Nat → Value} {w : World} (hj : j ∈ [10, 11]) (h : mV a b c n0 j g w) : ∃ x, g j = .pointer (some ⟨x, 0, none⟩) ∧ x < w.heap.size := by
  simp only [List.mem_cons, List.not_mem_nil, or_false] at hj
  rcases hj with rfl | rfl
  · obtain ⟨x, e, _, h1, _⟩ := h
    exact ⟨x, e, h1⟩
  · obtain ⟨x, e, _, h1, _⟩ := h
    exact ⟨x, e, h1⟩
end Go.Proofs.Yticooiibjpgfmaa
