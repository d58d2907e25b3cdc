/-
  No cell of these rows narrows 'for every input' (looked for: loops, veiled, ifaces, maps, wideKeys, modest, calm, conditions, laid).
  DERIVED. THE GIVEN ROWS OF THIS SEAT. 6 by the template 'for every input the law returns true; each argument reads behind the call as it read before'; 0 by the template 'total and deterministic' (their statements: YtbcdmammedabmaaTotals.lean).
  GIVEN WITH THE SEED: the statements are not yours to turn. If you find one false, say at which input.
  Laid BY PROGRAM, IN A SANDBOX (cutbox-rows.mjs): the forced cells as the released guide's own fill.sh prints them over the translation fde6b546eeee5b62… (all of the seat's roots in one cut). By AI agents, Wed Nov 11 2026. No macro, syntax, notation, axiom, sorry.
-/
import Derived.Test.YtbcdmammedabmaaChecked
import GoSem.Claim
import GoSem.ClaimJoined
import GoSem.ClaimMapViews
import Derived.JoinedTies
import Derived.KernelRfl
namespace Go.Proofs.Ytbcdmammedabmaa
/- THE CELL 'sum', in the pinned program and in every row, IS THE sha256 OF THE DUMP (.gsa) THAT YtbcdmammedabmaaProg.lean LOADS. Nothing in Lean hashes anything: it is a label: what it is worth is what the hold of that sum in a sandbox is worth. -/
noncomputable def Try.pinned : Pinned := { name := "ytbcdmammedabmaa", sum := "fde6b546eeee5b62600055e724e7326daa6870d4888143c5ca27970700d3e7be", checked := Try.checked }
namespace Rows
def none {H : Type} : Left H := { results := [], args := [] }

/-- 'rickyardlaw06.KeyWrites': WHATEVER THE INPUT: true; the input reads as it did. -/
def keyWritesSpec : ChangeSpec := { name := "keyWrites", fn := fun _ => fun
  | [d1, d2] => { results := [.lit (.bool true)], args := [d1, d2] }
  | _ => none }
def keyWritesRow : OpenClaim := { program := "ytbcdmammedabmaa", sum := "fde6b546eeee5b62600055e724e7326daa6870d4888143c5ca27970700d3e7be", func := "rickyard/rickyardlaw06.KeyWrites", spec := "keyWrites", apart := false }
def KeyWritesSaid : Prop := keyWritesRow.holds Try.pinned (OpenSpec.ofChange keyWritesSpec)

/-- ITS FALSE NEIGHBOUR: 'it returns false'. Refute it at one input. -/
def keyWritesWrong : ChangeSpec := { name := "keyWrites", fn := fun _ => fun
  | [d1, d2] => { results := [.lit (.bool false)], args := [d1, d2] }
  | _ => none }
def KeyWritesWrongFalsely : Prop := keyWritesRow.holds Try.pinned (OpenSpec.ofChange keyWritesWrong)

/-- 'rickyardlaw06.KeyOrders': WHATEVER THE INPUT: true; the input reads as it did. -/
def keyOrdersSpec : ChangeSpec := { name := "keyOrders", fn := fun _ => fun
  | [d1, d2, d3] => { results := [.lit (.bool true)], args := [d1, d2, d3] }
  | _ => none }
def keyOrdersRow : OpenClaim := { program := "ytbcdmammedabmaa", sum := "fde6b546eeee5b62600055e724e7326daa6870d4888143c5ca27970700d3e7be", func := "rickyard/rickyardlaw06.KeyOrders", spec := "keyOrders", apart := false }
def KeyOrdersSaid : Prop := keyOrdersRow.holds Try.pinned (OpenSpec.ofChange keyOrdersSpec)

/-- ITS FALSE NEIGHBOUR: 'it returns false'. Refute it at one input. -/
def keyOrdersWrong : ChangeSpec := { name := "keyOrders", fn := fun _ => fun
  | [d1, d2, d3] => { results := [.lit (.bool false)], args := [d1, d2, d3] }
  | _ => none }
def KeyOrdersWrongFalsely : Prop := keyOrdersRow.holds Try.pinned (OpenSpec.ofChange keyOrdersWrong)

/-- 'rickyardlaw06.KeyOrdered': WHATEVER THE INPUT: true; the input reads as it did. -/
def keyOrderedSpec : ChangeSpec := { name := "keyOrdered", fn := fun _ => fun
  | [d1, d2] => { results := [.lit (.bool true)], args := [d1, d2] }
  | _ => none }
def keyOrderedRow : OpenClaim := { program := "ytbcdmammedabmaa", sum := "fde6b546eeee5b62600055e724e7326daa6870d4888143c5ca27970700d3e7be", func := "rickyard/rickyardlaw06.KeyOrdered", spec := "keyOrdered", apart := false }
def KeyOrderedSaid : Prop := keyOrderedRow.holds Try.pinned (OpenSpec.ofChange keyOrderedSpec)

/-- ITS FALSE NEIGHBOUR: 'it returns false'. Refute it at one input. -/
def keyOrderedWrong : ChangeSpec := { name := "keyOrdered", fn := fun _ => fun
  | [d1, d2] => { results := [.lit (.bool false)], args := [d1, d2] }
  | _ => none }
def KeyOrderedWrongFalsely : Prop := keyOrderedRow.holds Try.pinned (OpenSpec.ofChange keyOrderedWrong)

/-- 'rickyardlaw06.KeyBack': WHATEVER THE INPUT: true; the input reads as it did. -/
def keyBackSpec : ChangeSpec := { name := "keyBack", fn := fun _ => fun
  | [d1, d2] => { results := [.lit (.bool true)], args := [d1, d2] }
  | _ => none }
def keyBackRow : OpenClaim := { program := "ytbcdmammedabmaa", sum := "fde6b546eeee5b62600055e724e7326daa6870d4888143c5ca27970700d3e7be", func := "rickyard/rickyardlaw06.KeyBack", spec := "keyBack", apart := false }
def KeyBackSaid : Prop := keyBackRow.holds Try.pinned (OpenSpec.ofChange keyBackSpec)

/-- ITS FALSE NEIGHBOUR: 'it returns false'. Refute it at one input. -/
def keyBackWrong : ChangeSpec := { name := "keyBack", fn := fun _ => fun
  | [d1, d2] => { results := [.lit (.bool false)], args := [d1, d2] }
  | _ => none }
def KeyBackWrongFalsely : Prop := keyBackRow.holds Try.pinned (OpenSpec.ofChange keyBackWrong)

/-- 'rickyardlaw06.KeyGroups': WHATEVER THE INPUT: true; the input reads as it did. -/
def keyGroupsSpec : ChangeSpec := { name := "keyGroups", fn := fun _ => fun
  | [d1, d2] => { results := [.lit (.bool true)], args := [d1, d2] }
  | _ => none }
def keyGroupsRow : OpenClaim := { program := "ytbcdmammedabmaa", sum := "fde6b546eeee5b62600055e724e7326daa6870d4888143c5ca27970700d3e7be", func := "rickyard/rickyardlaw06.KeyGroups", spec := "keyGroups", apart := false }
def KeyGroupsSaid : Prop := keyGroupsRow.holds Try.pinned (OpenSpec.ofChange keyGroupsSpec)

/-- ITS FALSE NEIGHBOUR: 'it returns false'. Refute it at one input. -/
def keyGroupsWrong : ChangeSpec := { name := "keyGroups", fn := fun _ => fun
  | [d1, d2] => { results := [.lit (.bool false)], args := [d1, d2] }
  | _ => none }
def KeyGroupsWrongFalsely : Prop := keyGroupsRow.holds Try.pinned (OpenSpec.ofChange keyGroupsWrong)

/-- 'rickyardlaw06.KeyParts': WHATEVER THE INPUT: true; the input reads as it did. -/
def keyPartsSpec : ChangeSpec := { name := "keyParts", fn := fun _ => fun
  | [d1, d2] => { results := [.lit (.bool true)], args := [d1, d2] }
  | _ => none }
def keyPartsRow : OpenClaim := { program := "ytbcdmammedabmaa", sum := "fde6b546eeee5b62600055e724e7326daa6870d4888143c5ca27970700d3e7be", func := "rickyard/rickyardlaw06.KeyParts", spec := "keyParts", apart := false }
def KeyPartsSaid : Prop := keyPartsRow.holds Try.pinned (OpenSpec.ofChange keyPartsSpec)

/-- ITS FALSE NEIGHBOUR: 'it returns false'. Refute it at one input. -/
def keyPartsWrong : ChangeSpec := { name := "keyParts", fn := fun _ => fun
  | [d1, d2] => { results := [.lit (.bool false)], args := [d1, d2] }
  | _ => none }
def KeyPartsWrongFalsely : Prop := keyPartsRow.holds Try.pinned (OpenSpec.ofChange keyPartsWrong)

/- THE SECOND FORM. 'bulk': how many values and letters a reading holds, each counted each time it is reached (what is shared counts as often as it is met; a slice's spare places count too). A statement '..UptoSaid' is the law's where the arguments, and the package variables that the reading takes, are together of bulk at most 1048576: NARROWER than '..Said'. Prove '..Said' where nothing that the law and all that it calls make is longer than what came in: it says more and counts as full. Else prove '..UptoSaid'. A law counts once. -/
mutual
def uptoBulk {H : Type} : DataW H → Nat
  | .lit (.string bytes) => bytes.length + 1
  | .lit _ => 1
  | .nil => 1
  | .ptr d => uptoBulk d + 1
  | .slice elems spare => uptoBulkAll elems + uptoBulkAll spare + 1
  | .agg parts => uptoBulkAll parts + 1
  | .iface _ d => uptoBulk d + 1
  | .map entries => uptoBulkEntries entries + 1
  | .held _ => 1
def uptoBulkAll {H : Type} : List (DataW H) → Nat
  | [] => 0
  | d :: r => uptoBulk d + uptoBulkAll r
def uptoBulkEntries {H : Type} : List (Lit × DataW H) → Nat
  | [] => 0
  | x :: r => uptoBulkEntry x + uptoBulkEntries r
def uptoBulkEntry {H : Type} : Lit × DataW H → Nat
  | (.string bytes, d) => bytes.length + uptoBulk d + 1
  | (_, d) => uptoBulk d + 1
 end
def uptoSmall : (H : Type) → List (DataW H) → Bool := fun _ ds => decide (uptoBulkAll ds ≤ 1048576)
def OpenSpec.upto (s : _root_.Go.ChangeSpec) : _root_.Go.OpenSpec := { _root_.Go.OpenSpec.ofChange s with cond := some uptoSmall }

/-- 'rickyardlaw06.KeyWrites', WHERE WHAT IT READS IS OF BULK AT MOST 1048576: true; the input reads as it did. -/
def keyWritesUptoRow : OpenClaim := { program := "ytbcdmammedabmaa", sum := "fde6b546eeee5b62600055e724e7326daa6870d4888143c5ca27970700d3e7be", func := "rickyard/rickyardlaw06.KeyWrites", spec := "keyWrites", apart := false, narrowed := true }
def KeyWritesUptoSaid : Prop := keyWritesUptoRow.holds Try.pinned (OpenSpec.upto keyWritesSpec)

/-- 'rickyardlaw06.KeyOrders', WHERE WHAT IT READS IS OF BULK AT MOST 1048576: true; the input reads as it did. -/
def keyOrdersUptoRow : OpenClaim := { program := "ytbcdmammedabmaa", sum := "fde6b546eeee5b62600055e724e7326daa6870d4888143c5ca27970700d3e7be", func := "rickyard/rickyardlaw06.KeyOrders", spec := "keyOrders", apart := false, narrowed := true }
def KeyOrdersUptoSaid : Prop := keyOrdersUptoRow.holds Try.pinned (OpenSpec.upto keyOrdersSpec)

/-- 'rickyardlaw06.KeyOrdered', WHERE WHAT IT READS IS OF BULK AT MOST 1048576: true; the input reads as it did. -/
def keyOrderedUptoRow : OpenClaim := { program := "ytbcdmammedabmaa", sum := "fde6b546eeee5b62600055e724e7326daa6870d4888143c5ca27970700d3e7be", func := "rickyard/rickyardlaw06.KeyOrdered", spec := "keyOrdered", apart := false, narrowed := true }
def KeyOrderedUptoSaid : Prop := keyOrderedUptoRow.holds Try.pinned (OpenSpec.upto keyOrderedSpec)

/-- 'rickyardlaw06.KeyBack', WHERE WHAT IT READS IS OF BULK AT MOST 1048576: true; the input reads as it did. -/
def keyBackUptoRow : OpenClaim := { program := "ytbcdmammedabmaa", sum := "fde6b546eeee5b62600055e724e7326daa6870d4888143c5ca27970700d3e7be", func := "rickyard/rickyardlaw06.KeyBack", spec := "keyBack", apart := false, narrowed := true }
def KeyBackUptoSaid : Prop := keyBackUptoRow.holds Try.pinned (OpenSpec.upto keyBackSpec)

/-- 'rickyardlaw06.KeyGroups', WHERE WHAT IT READS IS OF BULK AT MOST 1048576: true; the input reads as it did. -/
def keyGroupsUptoRow : OpenClaim := { program := "ytbcdmammedabmaa", sum := "fde6b546eeee5b62600055e724e7326daa6870d4888143c5ca27970700d3e7be", func := "rickyard/rickyardlaw06.KeyGroups", spec := "keyGroups", apart := false, narrowed := true }
def KeyGroupsUptoSaid : Prop := keyGroupsUptoRow.holds Try.pinned (OpenSpec.upto keyGroupsSpec)

/-- 'rickyardlaw06.KeyParts', WHERE WHAT IT READS IS OF BULK AT MOST 1048576: true; the input reads as it did. -/
def keyPartsUptoRow : OpenClaim := { program := "ytbcdmammedabmaa", sum := "fde6b546eeee5b62600055e724e7326daa6870d4888143c5ca27970700d3e7be", func := "rickyard/rickyardlaw06.KeyParts", spec := "keyParts", apart := false, narrowed := true }
def KeyPartsUptoSaid : Prop := keyPartsUptoRow.holds Try.pinned (OpenSpec.upto keyPartsSpec)

end Rows
end Go.Proofs.Ytbcdmammedabmaa
