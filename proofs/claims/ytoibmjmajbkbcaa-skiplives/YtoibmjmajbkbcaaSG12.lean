/- W10 W11, joined. -/
import Derived.Test.YtoibmjmajbkbcaaSG1
/- The contract of word.Write: numbers as eight bytes each, the greatest first. -/
namespace Go.Proofs.Ytoibmjmajbkbcaa
open Go.RowKit

/-- Byte i of eight, the greatest first. -/
def byteOf (x : Int) (i : Nat) : Int := x / 2 ^ (8 * (7 - i)) % 256
/-- The first k bytes of all numbers' bytes. -/
def bytesTo (zs : List Int) (k : Nat) : List Int := (List.range k).map fun j => byteOf (zs.getD (j / 8) 0) (j % 8)
theorem bytesTo_succ (zs : List Int) (k : Nat) : bytesTo zs (k + 1) = bytesTo zs k ++ [byteOf (zs.getD (k / 8) 0) (k % 8)] := by
  simp [bytesTo, List.range_succ]
theorem bytesTo_len (zs : List Int) (k : Nat) : (bytesTo zs k).length = k := by simp [bytesTo]

end Go.Proofs.Ytoibmjmajbkbcaa

/- The contract of wide.Write: sixteen bytes, the greatest first. -/
namespace Go.Proofs.Ytoibmjmajbkbcaa
open Go.RowKit

theorem mk8 : ∀ w, (Instr.makeSlice 29 (.int .i64 0) (.int .i64 (8 * ((1 : Nat) : Int)))).run Try.prog w = .ok (.slice (some ⟨w.heap.size, 0, none⟩) 0 (8 * 1)) (w.alloc (.cells (Array.replicate (8 * 1) (.int .u8 0)) 5)) := fun _ => by kernel_rfl
theorem mk16 : ∀ w, (Instr.makeSlice 29 (.int .i64 0) (.int .i64 (8 * ((2 : Nat) : Int)))).run Try.prog w = .ok (.slice (some ⟨w.heap.size, 0, none⟩) 0 (8 * 2)) (w.alloc (.cells (Array.replicate (8 * 2) (.int .u8 0)) 5)) := fun _ => by kernel_rfl
/-- The eight bytes of one number, the sixteen of two. -/
def eight (x : Int) : List Int := bytesTo [x] 8
def sixteen (x y : Int) : List Int := bytesTo [x, y] 16
theorem eight_len (x : Int) : (eight x).length = 8 := bytesTo_len _ _
theorem sixteen_len (x y : Int) : (sixteen x y).length = 16 := bytesTo_len _ _
end Go.Proofs.Ytoibmjmajbkbcaa
