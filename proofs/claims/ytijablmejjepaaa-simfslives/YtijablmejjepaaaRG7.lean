/- The document's file system: a fault is planned. -/
import Derived.Test.YtijablmejjepaaaRG4
namespace Go.Proofs.Ytijablmejjepaaa
open Go.RowKit Go.Maps Go.Sort

theorem RfC.fz {w : World} {g : Nat} {r : Int} {vf vd vo vp : Value} {af ee : Int} (h : RfC w g r vf vd vo vp af ee) (k : Nat) : w.frozen? ⟨g, k, none⟩ = false := by simp [World.frozen?, show w.heap[g]? = _ from h]
theorem RfC.s5 {w : World} {g : Nat} {r : Int} {vf vd vo vp : Value} {af ee : Int} (h : RfC w g r vf vd vo vp af ee) (x : Int) : RfC (w.setCell ⟨g, 5, none⟩ (.int .i64 x)) g r vf vd vo vp x ee := by
  have := cells_set h 5 (.int .i64 x); simpa [RfC] using this
theorem RfC.s6 {w : World} {g : Nat} {r : Int} {vf vd vo vp : Value} {af ee : Int} (h : RfC w g r vf vd vo vp af ee) (x : Int) : RfC (w.setCell ⟨g, 6, none⟩ (.int .i64 x)) g r vf vd vo vp af x := by
  have := cells_set h 6 (.int .i64 x); simpa [RfC] using this
set_option maxRecDepth 100000 in
theorem refFail_no {w : World} {g : Nat} (n e0 : Int) (h1 : e0 ≠ 81) (h2 : e0 ≠ 82) : Calls Try.prog 28 #[.pointer (some ⟨g, 0, none⟩), .int .i64 n, .int .i64 e0] w fun e w' => e = .returned (.int .i64 1) ∧ w' = w := by
  have i1 : (e0 != 81) = true := by simpa using h1
  have i2 : (e0 != 82) = true := by simpa using h2
  go_enter Try.func28, Try.ntmps28
  go_wp2
  go_ret
  exact ⟨rfl, rfl⟩
set_option maxRecDepth 100000 in
theorem refFail_any {w : World} {g : Nat} {r : Int} {vf vd vo vp : Value} {af ee : Int} (h : RfC w g r vf vd vo vp af ee) (n e0 : Int) (he : e0 = 81 ∨ e0 = 82) :
    Calls Try.prog 28 #[.pointer (some ⟨g, 0, none⟩), .int .i64 n, .int .i64 e0] w fun e w' => e = .returned (.int .i64 0) ∧ RfC w' g r vf vd vo vp (if n < 0 then -1 else n) e0 ∧ Onl (fun k => k = g) w w' ∧ w'.heap.size = w.heap.size := by
  have c5 := cell_of h 5 _ rfl
  have f5 := h.fz 5
  have HG1 : Hid (RfC (w.setCell ⟨g, 5, none⟩ (.int .i64 n)) g r vf vd vo vp n ee) := h.s5 n
  have c6 := cell_of HG1.out 6 _ rfl
  have f6 := HG1.out.fz 6
  have HG2 : Hid (RfC ((w.setCell ⟨g, 5, none⟩ (.int .i64 n)).setCell ⟨g, 6, none⟩ (.int .i64 e0)) g r vf vd vo vp n e0) := HG1.out.s6 e0
  have d5 := cell_of HG2.out 5 _ rfl
  have g5 := HG2.out.fz 5
  have O1 : Hid (Onl (fun k => k = g) w ((w.setCell ⟨g, 5, none⟩ (.int .i64 n)).setCell ⟨g, 6, none⟩ (.int .i64 e0))) := (Onl.set (O := fun k => k = g) (w := w) (a := ⟨g, 5, none⟩) rfl (.int .i64 n)).trans (Onl.set (a := ⟨g, 6, none⟩) (Or.inl rfl) (.int .i64 e0))
  clear h
  by_cases hn : n < 0
  · rw [if_pos hn]
    have HG3 : Hid (RfC (((w.setCell ⟨g, 5, none⟩ (.int .i64 n)).setCell ⟨g, 6, none⟩ (.int .i64 e0)).setCell ⟨g, 5, none⟩ (.int .i64 (-1))) g r vf vd vo vp (-1) e0) := HG2.out.s5 (-1)
    have O2 : Hid (Onl (fun k => k = g) w (((w.setCell ⟨g, 5, none⟩ (.int .i64 n)).setCell ⟨g, 6, none⟩ (.int .i64 e0)).setCell ⟨g, 5, none⟩ (.int .i64 (-1)))) := O1.out.trans (Onl.set (a := ⟨g, 5, none⟩) (Or.inl rfl) _)
    rcases he with rfl | rfl
    all_goals
      go_enter Try.func28, Try.ntmps28
      go_wp2
      go_ret
      exact ⟨rfl, HG3.out, O2.out, by simp [World.setCell]⟩
  · rw [if_neg hn]
    rcases he with rfl | rfl
    all_goals
      go_enter Try.func28, Try.ntmps28
      go_wp2
      go_ret
      exact ⟨rfl, HG2.out, O1.out, by simp [World.setCell]⟩
end Go.Proofs.Ytijablmejjepaaa
