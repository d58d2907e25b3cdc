/- The contract of wide.Write: sixteen bytes, the greatest first. -/
import Derived.Test.YtdamlnpfpfpeeaaW10
namespace Go.Proofs.Ytdamlnpfpfpeeaa
open Go.RowKit

theorem mk8 : ∀ w, (Instr.makeSlice 29 (.int .i64 0) (.int .i64 (8 * ((1 : Nat) : Int)))).run Try.prog w = .ok (.slice (some ⟨w.heap.size, 0, none⟩) 0 (8 * 1)) (w.alloc (.cells (Array.replicate (8 * 1) (.int .u8 0)) 5)) := fun _ => by kernel_rfl
theorem mk16 : ∀ w, (Instr.makeSlice 29 (.int .i64 0) (.int .i64 (8 * ((2 : Nat) : Int)))).run Try.prog w = .ok (.slice (some ⟨w.heap.size, 0, none⟩) 0 (8 * 2)) (w.alloc (.cells (Array.replicate (8 * 2) (.int .u8 0)) 5)) := fun _ => by kernel_rfl
/-- The eight bytes of one number, the sixteen of two. -/
def eight (x : Int) : List Int := bytesTo [x] 8
def sixteen (x y : Int) : List Int := bytesTo [x, y] 16
theorem eight_len (x : Int) : (eight x).length = 8 := bytesTo_len _ _
theorem sixteen_len (x y : Int) : (sixteen x y).length = 16 := bytesTo_len _ _
end Go.Proofs.Ytdamlnpfpfpeeaa
