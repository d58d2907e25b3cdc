/-
  No cell of these rows narrows 'for every input' (looked for: loops, veiled, ifaces, maps, wideKeys, modest, calm, conditions, laid).
  DERIVED. THE GIVEN ROWS OF THIS SEAT. 6 by the template 'for every input the law returns true; each argument reads behind the call as it read before'; 0 by the template 'total and deterministic' (their statements: YteajfbgodfpioaaTotals.lean).
  GIVEN WITH THE SEED: the statements are not yours to turn. If you find one false, say at which input.
  Laid BY PROGRAM, IN A SANDBOX (cutbox-rows.mjs): the forced cells as the released guide's own fill.sh prints them over the translation ab8fec09825ec044… (all of the seat's roots in one cut). By AI agents, Wed Nov 11 2026. No macro, syntax, notation, axiom, sorry.
-/
import Derived.Test.YteajfbgodfpioaaChecked
import GoSem.Claim
import GoSem.ClaimJoined
import GoSem.ClaimMapViews
import Derived.JoinedTies
import Derived.KernelRfl
namespace Go.Proofs.Yteajfbgodfpioaa
/- THE CELL 'sum', in the pinned program and in every row, IS THE sha256 OF THE DUMP (.gsa) THAT YteajfbgodfpioaaProg.lean LOADS. Nothing in Lean hashes anything: it is a label: what it is worth is what the hold of that sum in a sandbox is worth. -/
noncomputable def Try.pinned : Pinned := { name := "yteajfbgodfpioaa", sum := "ab8fec09825ec04400fb44aaf632def753f250ab3e65cb14f5ac0729b8dba76f", checked := Try.checked }
namespace Rows
def none {H : Type} : Left H := { results := [], args := [] }

/-- 'rickyardlaw11.SimfsNobody': WHATEVER THE INPUT: true; the input reads as it did. -/
def simfsNobodySpec : ChangeSpec := { name := "simfsNobody", fn := fun _ => fun
  | [d] => { results := [.lit (.bool true)], args := [d] }
  | _ => none }
def simfsNobodyRow : OpenClaim := { program := "yteajfbgodfpioaa", sum := "ab8fec09825ec04400fb44aaf632def753f250ab3e65cb14f5ac0729b8dba76f", func := "rickyard/rickyardlaw11.SimfsNobody", spec := "simfsNobody", unfollowed := true, recurses := true, apart := false }
def SimfsNobodySaid : Prop := simfsNobodyRow.holds Try.pinned (OpenSpec.ofChange simfsNobodySpec)

/-- ITS FALSE NEIGHBOUR: 'it returns false'. Refute it at one input. -/
def simfsNobodyWrong : ChangeSpec := { name := "simfsNobody", fn := fun _ => fun
  | [d] => { results := [.lit (.bool false)], args := [d] }
  | _ => none }
def SimfsNobodyWrongFalsely : Prop := simfsNobodyRow.holds Try.pinned (OpenSpec.ofChange simfsNobodyWrong)

/-- 'rickyardlaw11.SimfsTwice': WHATEVER THE INPUT: true; the input reads as it did. -/
def simfsTwiceSpec : ChangeSpec := { name := "simfsTwice", fn := fun _ => fun
  | [d1, d2, d3, d4, d5, d6] => { results := [.lit (.bool true)], args := [d1, d2, d3, d4, d5, d6] }
  | _ => none }
def simfsTwiceRow : OpenClaim := { program := "yteajfbgodfpioaa", sum := "ab8fec09825ec04400fb44aaf632def753f250ab3e65cb14f5ac0729b8dba76f", func := "rickyard/rickyardlaw11.SimfsTwice", spec := "simfsTwice", unfollowed := true, recurses := true, apart := false }
def SimfsTwiceSaid : Prop := simfsTwiceRow.holds Try.pinned (OpenSpec.ofChange simfsTwiceSpec)

/-- ITS FALSE NEIGHBOUR: 'it returns false'. Refute it at one input. -/
def simfsTwiceWrong : ChangeSpec := { name := "simfsTwice", fn := fun _ => fun
  | [d1, d2, d3, d4, d5, d6] => { results := [.lit (.bool false)], args := [d1, d2, d3, d4, d5, d6] }
  | _ => none }
def SimfsTwiceWrongFalsely : Prop := simfsTwiceRow.holds Try.pinned (OpenSpec.ofChange simfsTwiceWrong)

/-- 'rickyardlaw11.SimfsRefuses': WHATEVER THE INPUT: true; the input reads as it did. -/
def simfsRefusesSpec : ChangeSpec := { name := "simfsRefuses", fn := fun _ => fun
  | [d1, d2, d3, d4] => { results := [.lit (.bool true)], args := [d1, d2, d3, d4] }
  | _ => none }
def simfsRefusesRow : OpenClaim := { program := "yteajfbgodfpioaa", sum := "ab8fec09825ec04400fb44aaf632def753f250ab3e65cb14f5ac0729b8dba76f", func := "rickyard/rickyardlaw11.SimfsRefuses", spec := "simfsRefuses", unfollowed := true, recurses := true, apart := false }
def SimfsRefusesSaid : Prop := simfsRefusesRow.holds Try.pinned (OpenSpec.ofChange simfsRefusesSpec)

/-- ITS FALSE NEIGHBOUR: 'it returns false'. Refute it at one input. -/
def simfsRefusesWrong : ChangeSpec := { name := "simfsRefuses", fn := fun _ => fun
  | [d1, d2, d3, d4] => { results := [.lit (.bool false)], args := [d1, d2, d3, d4] }
  | _ => none }
def SimfsRefusesWrongFalsely : Prop := simfsRefusesRow.holds Try.pinned (OpenSpec.ofChange simfsRefusesWrong)

/-- 'rickyardlaw11.SimfsLasts': WHATEVER THE INPUT: true; the input reads as it did. -/
def simfsLastsSpec : ChangeSpec := { name := "simfsLasts", fn := fun _ => fun
  | [d1, d2, d3, d4, d5, d6] => { results := [.lit (.bool true)], args := [d1, d2, d3, d4, d5, d6] }
  | _ => none }
def simfsLastsRow : OpenClaim := { program := "yteajfbgodfpioaa", sum := "ab8fec09825ec04400fb44aaf632def753f250ab3e65cb14f5ac0729b8dba76f", func := "rickyard/rickyardlaw11.SimfsLasts", spec := "simfsLasts", unfollowed := true, recurses := true, apart := false }
def SimfsLastsSaid : Prop := simfsLastsRow.holds Try.pinned (OpenSpec.ofChange simfsLastsSpec)

/-- ITS FALSE NEIGHBOUR: 'it returns false'. Refute it at one input. -/
def simfsLastsWrong : ChangeSpec := { name := "simfsLasts", fn := fun _ => fun
  | [d1, d2, d3, d4, d5, d6] => { results := [.lit (.bool false)], args := [d1, d2, d3, d4, d5, d6] }
  | _ => none }
def SimfsLastsWrongFalsely : Prop := simfsLastsRow.holds Try.pinned (OpenSpec.ofChange simfsLastsWrong)

/-- 'rickyardlaw11.SimfsSync': WHATEVER THE INPUT: true; the input reads as it did. -/
def simfsSyncSpec : ChangeSpec := { name := "simfsSync", fn := fun _ => fun
  | [d1, d2, d3, d4] => { results := [.lit (.bool true)], args := [d1, d2, d3, d4] }
  | _ => none }
def simfsSyncRow : OpenClaim := { program := "yteajfbgodfpioaa", sum := "ab8fec09825ec04400fb44aaf632def753f250ab3e65cb14f5ac0729b8dba76f", func := "rickyard/rickyardlaw11.SimfsSync", spec := "simfsSync", unfollowed := true, recurses := true, apart := false }
def SimfsSyncSaid : Prop := simfsSyncRow.holds Try.pinned (OpenSpec.ofChange simfsSyncSpec)

/-- ITS FALSE NEIGHBOUR: 'it returns false'. Refute it at one input. -/
def simfsSyncWrong : ChangeSpec := { name := "simfsSync", fn := fun _ => fun
  | [d1, d2, d3, d4] => { results := [.lit (.bool false)], args := [d1, d2, d3, d4] }
  | _ => none }
def SimfsSyncWrongFalsely : Prop := simfsSyncRow.holds Try.pinned (OpenSpec.ofChange simfsSyncWrong)

/-- 'rickyardlaw11.SimfsMoves': WHATEVER THE INPUT: true; the input reads as it did. -/
def simfsMovesSpec : ChangeSpec := { name := "simfsMoves", fn := fun _ => fun
  | [d1, d2, d3, d4, d5, d6] => { results := [.lit (.bool true)], args := [d1, d2, d3, d4, d5, d6] }
  | _ => none }
def simfsMovesRow : OpenClaim := { program := "yteajfbgodfpioaa", sum := "ab8fec09825ec04400fb44aaf632def753f250ab3e65cb14f5ac0729b8dba76f", func := "rickyard/rickyardlaw11.SimfsMoves", spec := "simfsMoves", unfollowed := true, recurses := true, apart := false }
def SimfsMovesSaid : Prop := simfsMovesRow.holds Try.pinned (OpenSpec.ofChange simfsMovesSpec)

/-- ITS FALSE NEIGHBOUR: 'it returns false'. Refute it at one input. -/
def simfsMovesWrong : ChangeSpec := { name := "simfsMoves", fn := fun _ => fun
  | [d1, d2, d3, d4, d5, d6] => { results := [.lit (.bool false)], args := [d1, d2, d3, d4, d5, d6] }
  | _ => none }
def SimfsMovesWrongFalsely : Prop := simfsMovesRow.holds Try.pinned (OpenSpec.ofChange simfsMovesWrong)

/- THE SECOND FORM. 'bulk': how many values and letters a reading holds, each counted each time it is reached (what is shared counts as often as it is met; a slice's spare places count too). A statement '..UptoSaid' is the law's where the arguments, and the package variables that the reading takes, are together of bulk at most 1048576: NARROWER than '..Said'. Prove '..Said' where nothing that the law and all that it calls make is longer than what came in: it says more and counts as full. Else prove '..UptoSaid'. A law counts once. -/
mutual
def uptoBulk {H : Type} : DataW H → Nat
  | .lit (.string bytes) => bytes.length + 1
  | .lit _ => 1
  | .nil => 1
  | .ptr d => uptoBulk d + 1
  | .slice elems spare => uptoBulkAll elems + uptoBulkAll spare + 1
  | .agg parts => uptoBulkAll parts + 1
  | .iface _ d => uptoBulk d + 1
  | .map entries => uptoBulkEntries entries + 1
  | .held _ => 1
def uptoBulkAll {H : Type} : List (DataW H) → Nat
  | [] => 0
  | d :: r => uptoBulk d + uptoBulkAll r
def uptoBulkEntries {H : Type} : List (Lit × DataW H) → Nat
  | [] => 0
  | x :: r => uptoBulkEntry x + uptoBulkEntries r
def uptoBulkEntry {H : Type} : Lit × DataW H → Nat
  | (.string bytes, d) => bytes.length + uptoBulk d + 1
  | (_, d) => uptoBulk d + 1
 end
def uptoSmall : (H : Type) → List (DataW H) → Bool := fun _ ds => decide (uptoBulkAll ds ≤ 1048576)
def OpenSpec.upto (s : _root_.Go.ChangeSpec) : _root_.Go.OpenSpec := { _root_.Go.OpenSpec.ofChange s with cond := some uptoSmall }

/-- 'rickyardlaw11.SimfsNobody', WHERE WHAT IT READS IS OF BULK AT MOST 1048576: true; the input reads as it did. -/
def simfsNobodyUptoRow : OpenClaim := { program := "yteajfbgodfpioaa", sum := "ab8fec09825ec04400fb44aaf632def753f250ab3e65cb14f5ac0729b8dba76f", func := "rickyard/rickyardlaw11.SimfsNobody", spec := "simfsNobody", unfollowed := true, recurses := true, apart := false, narrowed := true }
def SimfsNobodyUptoSaid : Prop := simfsNobodyUptoRow.holds Try.pinned (OpenSpec.upto simfsNobodySpec)

/-- 'rickyardlaw11.SimfsTwice', WHERE WHAT IT READS IS OF BULK AT MOST 1048576: true; the input reads as it did. -/
def simfsTwiceUptoRow : OpenClaim := { program := "yteajfbgodfpioaa", sum := "ab8fec09825ec04400fb44aaf632def753f250ab3e65cb14f5ac0729b8dba76f", func := "rickyard/rickyardlaw11.SimfsTwice", spec := "simfsTwice", unfollowed := true, recurses := true, apart := false, narrowed := true }
def SimfsTwiceUptoSaid : Prop := simfsTwiceUptoRow.holds Try.pinned (OpenSpec.upto simfsTwiceSpec)

/-- 'rickyardlaw11.SimfsRefuses', WHERE WHAT IT READS IS OF BULK AT MOST 1048576: true; the input reads as it did. -/
def simfsRefusesUptoRow : OpenClaim := { program := "yteajfbgodfpioaa", sum := "ab8fec09825ec04400fb44aaf632def753f250ab3e65cb14f5ac0729b8dba76f", func := "rickyard/rickyardlaw11.SimfsRefuses", spec := "simfsRefuses", unfollowed := true, recurses := true, apart := false, narrowed := true }
def SimfsRefusesUptoSaid : Prop := simfsRefusesUptoRow.holds Try.pinned (OpenSpec.upto simfsRefusesSpec)

/-- 'rickyardlaw11.SimfsLasts', WHERE WHAT IT READS IS OF BULK AT MOST 1048576: true; the input reads as it did. -/
def simfsLastsUptoRow : OpenClaim := { program := "yteajfbgodfpioaa", sum := "ab8fec09825ec04400fb44aaf632def753f250ab3e65cb14f5ac0729b8dba76f", func := "rickyard/rickyardlaw11.SimfsLasts", spec := "simfsLasts", unfollowed := true, recurses := true, apart := false, narrowed := true }
def SimfsLastsUptoSaid : Prop := simfsLastsUptoRow.holds Try.pinned (OpenSpec.upto simfsLastsSpec)

/-- 'rickyardlaw11.SimfsSync', WHERE WHAT IT READS IS OF BULK AT MOST 1048576: true; the input reads as it did. -/
def simfsSyncUptoRow : OpenClaim := { program := "yteajfbgodfpioaa", sum := "ab8fec09825ec04400fb44aaf632def753f250ab3e65cb14f5ac0729b8dba76f", func := "rickyard/rickyardlaw11.SimfsSync", spec := "simfsSync", unfollowed := true, recurses := true, apart := false, narrowed := true }
def SimfsSyncUptoSaid : Prop := simfsSyncUptoRow.holds Try.pinned (OpenSpec.upto simfsSyncSpec)

/-- 'rickyardlaw11.SimfsMoves', WHERE WHAT IT READS IS OF BULK AT MOST 1048576: true; the input reads as it did. -/
def simfsMovesUptoRow : OpenClaim := { program := "yteajfbgodfpioaa", sum := "ab8fec09825ec04400fb44aaf632def753f250ab3e65cb14f5ac0729b8dba76f", func := "rickyard/rickyardlaw11.SimfsMoves", spec := "simfsMoves", unfollowed := true, recurses := true, apart := false, narrowed := true }
def SimfsMovesUptoSaid : Prop := simfsMovesUptoRow.holds Try.pinned (OpenSpec.upto simfsMovesSpec)

end Rows
end Go.Proofs.Yteajfbgodfpioaa
