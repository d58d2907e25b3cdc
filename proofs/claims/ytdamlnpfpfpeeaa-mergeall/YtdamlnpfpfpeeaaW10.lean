/- The contract of word.Write: numbers as eight bytes each, the greatest first. -/
import Derived.Test.YtdamlnpfpfpeeaaW1
import Derived.Test.YtdamlnpfpfpeeaaC0
namespace Go.Proofs.Ytdamlnpfpfpeeaa
open Go.RowKit

/-- Byte i of eight, the greatest first. -/
def byteOf (x : Int) (i : Nat) : Int := x / 2 ^ (8 * (7 - i)) % 256
/-- The first k bytes of all numbers' bytes. -/
def bytesTo (zs : List Int) (k : Nat) : List Int := (List.range k).map fun j => byteOf (zs.getD (j / 8) 0) (j % 8)
theorem bytesTo_succ (zs : List Int) (k : Nat) : bytesTo zs (k + 1) = bytesTo zs k ++ [byteOf (zs.getD (k / 8) 0) (k % 8)] := by
  simp [bytesTo, List.range_succ]
theorem bytesTo_len (zs : List Int) (k : Nat) : (bytesTo zs k).length = k := by simp [bytesTo]

end Go.Proofs.Ytdamlnpfpfpeeaa
