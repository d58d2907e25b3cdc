/-
  No cell of these rows narrows 'for every input' (looked for: loops, veiled, ifaces, maps, wideKeys, modest, calm, conditions, laid).
  DERIVED. THE GIVEN ROWS OF THIS SEAT. 4 by the template 'for every input the law returns true; each argument reads behind the call as it read before'; 0 by the template 'total and deterministic' (their statements: YtoenijflijfogaaGreatTotals.lean).
  GIVEN WITH THE SEED: the statements are not yours to turn. If you find one false, say at which input.
  Laid BY PROGRAM, IN A SANDBOX (cutbox-rows.mjs): the forced cells as the released guide's own fill.sh prints them over the translation 342ef633400c0e4b… (all of the seat's roots in one cut). By AI agents, Wed Nov 11 2026. No macro, syntax, notation, axiom, sorry.
-/
import Derived.Test.YtoenijflijfogaaGreatChecked
import GoSem.Claim
import GoSem.ClaimJoined
import GoSem.ClaimMapViews
import Derived.JoinedTies
import Derived.KernelRfl
namespace Go.Proofs.YtoenijflijfogaaGreat
/- THE CELL 'sum', in the pinned program and in every row, IS THE sha256 OF THE DUMP (.gsa) THAT YtoenijflijfogaaGreatProg.lean LOADS. Nothing in Lean hashes anything: it is a label: what it is worth is what the hold of that sum in a sandbox is worth. -/
noncomputable def Tryz.pinned : Pinned := { name := "ytoenijflijfogaagreat", sum := "342ef633400c0e4b73ef58631da5946cfed434dbd8540b8d1cc2c3bb30557cc8", checked := Tryz.checked }
namespace Rows
def none {H : Type} : Left H := { results := [], args := [] }

/-- 'rickyardlaw17.AskGets': WHATEVER THE INPUT: true; the input reads as it did. -/
def askGetsSpec : ChangeSpec := { name := "askGets", fn := fun _ => fun
  | [d1, d2, d3, d4] => { results := [.lit (.bool true)], args := [d1, d2, d3, d4] }
  | _ => none }
def askGetsRow : OpenClaim := { program := "ytoenijflijfogaagreat", sum := "342ef633400c0e4b73ef58631da5946cfed434dbd8540b8d1cc2c3bb30557cc8", func := "rickyard/rickyardlaw17.AskGets", spec := "askGets", inPlace := ["internal/bytealg.Compare", "math/bits.Add64", "slices.overlaps[rickyard/api.Entry]"], unfollowed := true, recurses := true, apart := false }
def AskGetsSaid : Prop := askGetsRow.holds Tryz.pinned (OpenSpec.ofChange askGetsSpec)

/-- ITS FALSE NEIGHBOUR: 'it returns false'. Refute it at one input. -/
def askGetsWrong : ChangeSpec := { name := "askGets", fn := fun _ => fun
  | [d1, d2, d3, d4] => { results := [.lit (.bool false)], args := [d1, d2, d3, d4] }
  | _ => none }
def AskGetsWrongFalsely : Prop := askGetsRow.holds Tryz.pinned (OpenSpec.ofChange askGetsWrong)

/-- 'rickyardlaw17.AskScans': WHATEVER THE INPUT: true; the input reads as it did. -/
def askScansSpec : ChangeSpec := { name := "askScans", fn := fun _ => fun
  | [d1, d2, d3, d4] => { results := [.lit (.bool true)], args := [d1, d2, d3, d4] }
  | _ => none }
def askScansRow : OpenClaim := { program := "ytoenijflijfogaagreat", sum := "342ef633400c0e4b73ef58631da5946cfed434dbd8540b8d1cc2c3bb30557cc8", func := "rickyard/rickyardlaw17.AskScans", spec := "askScans", inPlace := ["internal/bytealg.Compare", "math/bits.Add64", "slices.overlaps[rickyard/api.Entry]"], unfollowed := true, recurses := true, apart := false }
def AskScansSaid : Prop := askScansRow.holds Tryz.pinned (OpenSpec.ofChange askScansSpec)

/-- ITS FALSE NEIGHBOUR: 'it returns false'. Refute it at one input. -/
def askScansWrong : ChangeSpec := { name := "askScans", fn := fun _ => fun
  | [d1, d2, d3, d4] => { results := [.lit (.bool false)], args := [d1, d2, d3, d4] }
  | _ => none }
def AskScansWrongFalsely : Prop := askScansRow.holds Tryz.pinned (OpenSpec.ofChange askScansWrong)

/-- 'rickyardlaw17.AskRanges': WHATEVER THE INPUT: true; the input reads as it did. -/
def askRangesSpec : ChangeSpec := { name := "askRanges", fn := fun _ => fun
  | [d1, d2, d3, d4, d5] => { results := [.lit (.bool true)], args := [d1, d2, d3, d4, d5] }
  | _ => none }
def askRangesRow : OpenClaim := { program := "ytoenijflijfogaagreat", sum := "342ef633400c0e4b73ef58631da5946cfed434dbd8540b8d1cc2c3bb30557cc8", func := "rickyard/rickyardlaw17.AskRanges", spec := "askRanges", inPlace := ["internal/bytealg.Compare", "math/bits.Add64", "slices.overlaps[rickyard/api.Entry]"], unfollowed := true, recurses := true, apart := false }
def AskRangesSaid : Prop := askRangesRow.holds Tryz.pinned (OpenSpec.ofChange askRangesSpec)

/-- ITS FALSE NEIGHBOUR: 'it returns false'. Refute it at one input. -/
def askRangesWrong : ChangeSpec := { name := "askRanges", fn := fun _ => fun
  | [d1, d2, d3, d4, d5] => { results := [.lit (.bool false)], args := [d1, d2, d3, d4, d5] }
  | _ => none }
def AskRangesWrongFalsely : Prop := askRangesRow.holds Tryz.pinned (OpenSpec.ofChange askRangesWrong)

/-- 'rickyardlaw17.AskEach': WHATEVER THE INPUT: true; the input reads as it did. -/
def askEachSpec : ChangeSpec := { name := "askEach", fn := fun _ => fun
  | [d1, d2, d3, d4] => { results := [.lit (.bool true)], args := [d1, d2, d3, d4] }
  | _ => none }
def askEachRow : OpenClaim := { program := "ytoenijflijfogaagreat", sum := "342ef633400c0e4b73ef58631da5946cfed434dbd8540b8d1cc2c3bb30557cc8", func := "rickyard/rickyardlaw17.AskEach", spec := "askEach", inPlace := ["internal/bytealg.Compare", "math/bits.Add64", "slices.overlaps[rickyard/api.Entry]"], unfollowed := true, recurses := true, apart := false }
def AskEachSaid : Prop := askEachRow.holds Tryz.pinned (OpenSpec.ofChange askEachSpec)

/-- ITS FALSE NEIGHBOUR: 'it returns false'. Refute it at one input. -/
def askEachWrong : ChangeSpec := { name := "askEach", fn := fun _ => fun
  | [d1, d2, d3, d4] => { results := [.lit (.bool false)], args := [d1, d2, d3, d4] }
  | _ => none }
def AskEachWrongFalsely : Prop := askEachRow.holds Tryz.pinned (OpenSpec.ofChange askEachWrong)

/- THE SECOND FORM. 'bulk': how many values and letters a reading holds, each counted each time it is reached (what is shared counts as often as it is met; a slice's spare places count too). A statement '..UptoSaid' is the law's where the arguments, and the package variables that the reading takes, are together of bulk at most 1048576: NARROWER than '..Said'. Prove '..Said' where nothing that the law and all that it calls make is longer than what came in: it says more and counts as full. Else prove '..UptoSaid'. A law counts once. -/
mutual
def uptoBulk {H : Type} : DataW H → Nat
  | .lit (.string bytes) => bytes.length + 1
  | .lit _ => 1
  | .nil => 1
  | .ptr d => uptoBulk d + 1
  | .slice elems spare => uptoBulkAll elems + uptoBulkAll spare + 1
  | .agg parts => uptoBulkAll parts + 1
  | .iface _ d => uptoBulk d + 1
  | .map entries => uptoBulkEntries entries + 1
  | .held _ => 1
def uptoBulkAll {H : Type} : List (DataW H) → Nat
  | [] => 0
  | d :: r => uptoBulk d + uptoBulkAll r
def uptoBulkEntries {H : Type} : List (Lit × DataW H) → Nat
  | [] => 0
  | x :: r => uptoBulkEntry x + uptoBulkEntries r
def uptoBulkEntry {H : Type} : Lit × DataW H → Nat
  | (.string bytes, d) => bytes.length + uptoBulk d + 1
  | (_, d) => uptoBulk d + 1
 end
def uptoSmall : (H : Type) → List (DataW H) → Bool := fun _ ds => decide (uptoBulkAll ds ≤ 1048576)
def OpenSpec.upto (s : _root_.Go.ChangeSpec) : _root_.Go.OpenSpec := { _root_.Go.OpenSpec.ofChange s with cond := some uptoSmall }

/-- 'rickyardlaw17.AskGets', WHERE WHAT IT READS IS OF BULK AT MOST 1048576: true; the input reads as it did. -/
def askGetsUptoRow : OpenClaim := { program := "ytoenijflijfogaagreat", sum := "342ef633400c0e4b73ef58631da5946cfed434dbd8540b8d1cc2c3bb30557cc8", func := "rickyard/rickyardlaw17.AskGets", spec := "askGets", inPlace := ["internal/bytealg.Compare", "math/bits.Add64", "slices.overlaps[rickyard/api.Entry]"], unfollowed := true, recurses := true, apart := false, narrowed := true }
def AskGetsUptoSaid : Prop := askGetsUptoRow.holds Tryz.pinned (OpenSpec.upto askGetsSpec)

/-- 'rickyardlaw17.AskScans', WHERE WHAT IT READS IS OF BULK AT MOST 1048576: true; the input reads as it did. -/
def askScansUptoRow : OpenClaim := { program := "ytoenijflijfogaagreat", sum := "342ef633400c0e4b73ef58631da5946cfed434dbd8540b8d1cc2c3bb30557cc8", func := "rickyard/rickyardlaw17.AskScans", spec := "askScans", inPlace := ["internal/bytealg.Compare", "math/bits.Add64", "slices.overlaps[rickyard/api.Entry]"], unfollowed := true, recurses := true, apart := false, narrowed := true }
def AskScansUptoSaid : Prop := askScansUptoRow.holds Tryz.pinned (OpenSpec.upto askScansSpec)

/-- 'rickyardlaw17.AskRanges', WHERE WHAT IT READS IS OF BULK AT MOST 1048576: true; the input reads as it did. -/
def askRangesUptoRow : OpenClaim := { program := "ytoenijflijfogaagreat", sum := "342ef633400c0e4b73ef58631da5946cfed434dbd8540b8d1cc2c3bb30557cc8", func := "rickyard/rickyardlaw17.AskRanges", spec := "askRanges", inPlace := ["internal/bytealg.Compare", "math/bits.Add64", "slices.overlaps[rickyard/api.Entry]"], unfollowed := true, recurses := true, apart := false, narrowed := true }
def AskRangesUptoSaid : Prop := askRangesUptoRow.holds Tryz.pinned (OpenSpec.upto askRangesSpec)

/-- 'rickyardlaw17.AskEach', WHERE WHAT IT READS IS OF BULK AT MOST 1048576: true; the input reads as it did. -/
def askEachUptoRow : OpenClaim := { program := "ytoenijflijfogaagreat", sum := "342ef633400c0e4b73ef58631da5946cfed434dbd8540b8d1cc2c3bb30557cc8", func := "rickyard/rickyardlaw17.AskEach", spec := "askEach", inPlace := ["internal/bytealg.Compare", "math/bits.Add64", "slices.overlaps[rickyard/api.Entry]"], unfollowed := true, recurses := true, apart := false, narrowed := true }
def AskEachUptoSaid : Prop := askEachUptoRow.holds Tryz.pinned (OpenSpec.upto askEachSpec)

end Rows
end Go.Proofs.YtoenijflijfogaaGreat
