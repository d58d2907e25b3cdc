/-
  DERIVED. GIVEN WITH THE SEED: THE CARDS: each row of YtahigmjpeicemaaDoorRows.lean that lists a variable, with what it lists TIED to the program's text (the seventh form; the later family's looks); each row that meets fmt, with fmt's text TOLD by the authors' own Lean function (tested against real Go, not proved from fmt's source: count such statements apart). THE CARD IS WHAT COUNTS. Prove the row's statement (the work); the ties are given (YtahigmjpeicemaaDoorTie.lean); close each card by the builder's one call (the guide's Derived/Test/ToyasCard.lean, 'card_holds'). Laid BY PROGRAM, IN A SANDBOX (cutbox-door.mjs). By AI agents, Wed Nov 11 2026. No macro, syntax, notation, axiom, sorry.
-/
import Derived.Test.YtahigmjpeicemaaDoorRows
import GoSem.ClaimSeven
namespace Go.Proofs.YtahigmjpeicemaaDoor
namespace Rows

/-- THE TIED CARD OF 'rickyardlaw12.WalWrites'. -/
def walWritesCard : Claim7 := { stood := { row := walWritesRow, standIns := [], harness := (true, "077c1bf07a232b80821be9b4b2ae634ac7e0e8f00aad57bbab4473f6cee8d54a"), looks := false }, kinds := [], alts := [], laidByText := true, laidKinds := [.data, .data, .data], laidTests := true, laidLooks := .later }
def WalWritesCardSaid : Prop := Claim7.holds Tryd.pinned (.plain (OpenSpec.ofChange walWritesSpec)) walWritesCard

/-- THE TIED CARD OF 'rickyardlaw12.WalNobody'. -/
def walNobodyCard : Claim7 := { stood := { row := walNobodyRow, standIns := [], harness := (true, "077c1bf07a232b80821be9b4b2ae634ac7e0e8f00aad57bbab4473f6cee8d54a"), looks := false }, kinds := [], alts := [], laidByText := true, laidKinds := [.data, .data, .data], laidTests := true, laidLooks := .later }
def WalNobodyCardSaid : Prop := Claim7.holds Tryd.pinned (.plain (OpenSpec.ofChange walNobodySpec)) walNobodyCard

/-- THE SECOND FORM's CARD OF 'rickyardlaw12.WalWrites'. -/
def walWritesUptoCard : Claim7 := { stood := { row := walWritesUptoRow, standIns := [], harness := (true, "077c1bf07a232b80821be9b4b2ae634ac7e0e8f00aad57bbab4473f6cee8d54a"), looks := false }, kinds := [], alts := [], laidByText := true, laidKinds := [.data, .data, .data], laidTests := true, laidLooks := .later }
def WalWritesUptoCardSaid : Prop := Claim7.holds Tryd.pinned (.plain (OpenSpec.upto walWritesSpec)) walWritesUptoCard

/-- THE SECOND FORM's CARD OF 'rickyardlaw12.WalNobody'. -/
def walNobodyUptoCard : Claim7 := { stood := { row := walNobodyUptoRow, standIns := [], harness := (true, "077c1bf07a232b80821be9b4b2ae634ac7e0e8f00aad57bbab4473f6cee8d54a"), looks := false }, kinds := [], alts := [], laidByText := true, laidKinds := [.data, .data, .data], laidTests := true, laidLooks := .later }
def WalNobodyUptoCardSaid : Prop := Claim7.holds Tryd.pinned (.plain (OpenSpec.upto walNobodySpec)) walNobodyUptoCard
end Rows
end Go.Proofs.YtahigmjpeicemaaDoor
