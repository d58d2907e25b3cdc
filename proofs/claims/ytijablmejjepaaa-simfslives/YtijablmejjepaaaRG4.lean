/- The document's file system: its plan. -/
import Derived.Test.YtijablmejjepaaaRG3
namespace Go.Proofs.Ytijablmejjepaaa
open Go.RowKit Go.Maps Go.Sort

/-- A file system's own cells. -/
def RfC (w : World) (g : Nat) (r : Int) (vf vd vo vp : Value) (af ee : Int) : Prop := w.heap[g]? = some (.cells #[.int .i64 r, vf, vd, vo, vp, .int .i64 af, .int .i64 ee] 48)
set_option maxRecDepth 100000 in
theorem refPlan_no {w : World} {g : Nat} {r : Int} {vf vd vo vp : Value} {ee : Int} (h : RfC w g r vf vd vo vp (-1) ee) :
    Calls Try.prog 44 #[.pointer (some ⟨g, 0, none⟩)] w fun e w' => e = .returned (.int .i64 0) ∧ w' = w := by
  have c5 := cell_of h 5 _ rfl
  clear h
  go_enter Try.func44, Try.ntmps44
  go_wp2
  go_ret
  exact ⟨rfl, rfl⟩
set_option maxRecDepth 100000 in
theorem refPlan_yes {w : World} {g : Nat} {r : Int} {vf vd vo vp : Value} {af ee : Int} (h : RfC w g r vf vd vo vp af ee) (h0 : 0 ≤ af) (h1 : af < 9223372036854775808) :
    Calls Try.prog 44 #[.pointer (some ⟨g, 0, none⟩)] w fun e w' => e = .returned (.int .i64 (if 0 < af then 0 else ee)) ∧ RfC w' g r vf vd vo vp (af - 1) ee ∧ w' = w.setCell ⟨g, 5, none⟩ (.int .i64 (af - 1)) := by
  have c5 := cell_of h 5 _ rfl
  have c6 := cell_of h 6 _ rfl
  have f5 : w.frozen? ⟨g, 5, none⟩ = false := by simp [World.frozen?, show w.heap[g]? = _ from h]
  have HG : Hid (RfC (w.setCell ⟨g, 5, none⟩ (.int .i64 (af - 1))) g r vf vd vo vp (af - 1) ee) := by
    have := cells_set h 5 (.int .i64 (af - 1)); simpa [RfC, Hid] using this
  have d5 := cell_of HG.out 5 _ rfl
  have d6 := cell_of HG.out 6 _ rfl
  have hn : ¬ af < 0 := by omega
  clear h
  by_cases hp : 0 < af
  · rw [if_pos hp]
    have hn2 : ¬ af - 1 < 0 := by omega
    go_enter Try.func44, Try.ntmps44
    go_wp2
    go_ret
    exact ⟨rfl, HG.out, rfl⟩
  · rw [if_neg hp]
    have hn2 : af - 1 < 0 := by omega
    go_enter Try.func44, Try.ntmps44
    go_wp2
    go_ret
    exact ⟨rfl, HG.out, rfl⟩
end Go.Proofs.Ytijablmejjepaaa
