/- The document's file system: a new one. -/
import Derived.Test.YtijablmejjepaaaRG4
namespace Go.Proofs.Ytijablmejjepaaa
open Go.RowKit Go.Maps Go.Sort

set_option maxRecDepth 100000 in
theorem refNew_no (r : Int) (h : r < 1) (w : World) : Calls Try.prog 5 #[.int .i64 r] w fun e w' => e = .returned (.tuple #[.pointer none, .int .i64 1]) ∧ w' = w := by
  go_enter Try.func5, Try.ntmps5
  go_wp2
  go_ret2
  exact ⟨rfl, rfl⟩
set_option maxRecDepth 100000 in
theorem refNew_any (r : Int) (h : 1 ≤ r) (w : World) : Calls Try.prog 5 #[.int .i64 r] w fun e w' => e = .returned (.tuple #[.pointer (some ⟨w.heap.size, 0, none⟩), .int .i64 0]) ∧ RfC w' w.heap.size r (.slice none 0 0) (.slice none 0 0) (.slice none 0 0) (.slice none 0 0) (-1) 0 ∧ Below w.heap.size w w' ∧ w'.heap.size = w.heap.size + 1 := by
  have hn : ¬ r < 1 := by omega
  go_enter Try.func5, Try.ntmps5
  go_wp2
  go_ret2
  exact ⟨rfl, heap_alloc_new _ _, (Below.refl _ _).alloc (Nat.le_refl _) _, by simp⟩
end Go.Proofs.Ytijablmejjepaaa
