/-
  DERIVED. GIVEN WITH THE SEED: THE CARDS: each row of YtilbffgpniomcaaGreatDoorRows.lean that lists a variable, with what it lists TIED to the program's text (the seventh form; the later family's looks); each row that meets fmt, with fmt's text TOLD by the authors' own Lean function (tested against real Go, not proved from fmt's source: count such statements apart). THE CARD IS WHAT COUNTS. Prove the row's statement (the work); the ties are given (YtilbffgpniomcaaGreatDoorTie.lean); close each card by the builder's one call (the guide's Derived/Test/ToyasCard.lean, 'card_holds'). Laid BY PROGRAM, IN A SANDBOX (cutbox-door.mjs). By AI agents, Wed Nov 11 2026. No macro, syntax, notation, axiom, sorry.
-/
import Derived.Test.YtilbffgpniomcaaGreatDoorRows
import GoSem.ClaimSeven
namespace Go.Proofs.YtilbffgpniomcaaGreatDoor
namespace Rows

/-- THE TIED CARD OF 'rickyardlaw13.ManifestLoads'. -/
def manifestLoadsCard : Claim7 := { stood := { row := manifestLoadsRow, standIns := [], harness := (true, "35bcfac3ec8c49ef2b8aa6d621d79d44f54ab34ca992b90aa25bd1e6977be418"), looks := false }, kinds := [], alts := [], laidByText := true, laidKinds := [.data, .data, .data], laidTests := true, laidLooks := .later }
def ManifestLoadsCardSaid : Prop := Claim7.holds Tryz.pinned (.plain (OpenSpec.ofChange manifestLoadsSpec)) manifestLoadsCard

/-- THE TIED CARD OF 'rickyardlaw13.ManifestSaves'. -/
def manifestSavesCard : Claim7 := { stood := { row := manifestSavesRow, standIns := [], harness := (true, "35bcfac3ec8c49ef2b8aa6d621d79d44f54ab34ca992b90aa25bd1e6977be418"), looks := false }, kinds := [], alts := [], laidByText := true, laidKinds := [.data, .data, .data], laidTests := true, laidLooks := .later }
def ManifestSavesCardSaid : Prop := Claim7.holds Tryz.pinned (.plain (OpenSpec.ofChange manifestSavesSpec)) manifestSavesCard

/-- THE TIED CARD OF 'rickyardlaw13.ManifestOne'. -/
def manifestOneCard : Claim7 := { stood := { row := manifestOneRow, standIns := [], harness := (true, "35bcfac3ec8c49ef2b8aa6d621d79d44f54ab34ca992b90aa25bd1e6977be418"), looks := false }, kinds := [], alts := [], laidByText := true, laidKinds := [.data, .data, .data], laidTests := true, laidLooks := .later }
def ManifestOneCardSaid : Prop := Claim7.holds Tryz.pinned (.plain (OpenSpec.ofChange manifestOneSpec)) manifestOneCard

/-- THE TIED CARD OF 'rickyardlaw13.ManifestEdits'. -/
def manifestEditsCard : Claim7 := { stood := { row := manifestEditsRow, standIns := [], harness := (true, "35bcfac3ec8c49ef2b8aa6d621d79d44f54ab34ca992b90aa25bd1e6977be418"), looks := false }, kinds := [], alts := [], laidByText := true, laidKinds := [.data, .data, .data], laidTests := true, laidLooks := .later }
def ManifestEditsCardSaid : Prop := Claim7.holds Tryz.pinned (.plain (OpenSpec.ofChange manifestEditsSpec)) manifestEditsCard

/-- THE SECOND FORM's CARD OF 'rickyardlaw13.ManifestLoads'. -/
def manifestLoadsUptoCard : Claim7 := { stood := { row := manifestLoadsUptoRow, standIns := [], harness := (true, "35bcfac3ec8c49ef2b8aa6d621d79d44f54ab34ca992b90aa25bd1e6977be418"), looks := false }, kinds := [], alts := [], laidByText := true, laidKinds := [.data, .data, .data], laidTests := true, laidLooks := .later }
def ManifestLoadsUptoCardSaid : Prop := Claim7.holds Tryz.pinned (.plain (OpenSpec.upto manifestLoadsSpec)) manifestLoadsUptoCard

/-- THE SECOND FORM's CARD OF 'rickyardlaw13.ManifestSaves'. -/
def manifestSavesUptoCard : Claim7 := { stood := { row := manifestSavesUptoRow, standIns := [], harness := (true, "35bcfac3ec8c49ef2b8aa6d621d79d44f54ab34ca992b90aa25bd1e6977be418"), looks := false }, kinds := [], alts := [], laidByText := true, laidKinds := [.data, .data, .data], laidTests := true, laidLooks := .later }
def ManifestSavesUptoCardSaid : Prop := Claim7.holds Tryz.pinned (.plain (OpenSpec.upto manifestSavesSpec)) manifestSavesUptoCard

/-- THE SECOND FORM's CARD OF 'rickyardlaw13.ManifestOne'. -/
def manifestOneUptoCard : Claim7 := { stood := { row := manifestOneUptoRow, standIns := [], harness := (true, "35bcfac3ec8c49ef2b8aa6d621d79d44f54ab34ca992b90aa25bd1e6977be418"), looks := false }, kinds := [], alts := [], laidByText := true, laidKinds := [.data, .data, .data], laidTests := true, laidLooks := .later }
def ManifestOneUptoCardSaid : Prop := Claim7.holds Tryz.pinned (.plain (OpenSpec.upto manifestOneSpec)) manifestOneUptoCard

/-- THE SECOND FORM's CARD OF 'rickyardlaw13.ManifestEdits'. -/
def manifestEditsUptoCard : Claim7 := { stood := { row := manifestEditsUptoRow, standIns := [], harness := (true, "35bcfac3ec8c49ef2b8aa6d621d79d44f54ab34ca992b90aa25bd1e6977be418"), looks := false }, kinds := [], alts := [], laidByText := true, laidKinds := [.data, .data, .data], laidTests := true, laidLooks := .later }
def ManifestEditsUptoCardSaid : Prop := Claim7.holds Tryz.pinned (.plain (OpenSpec.upto manifestEditsSpec)) manifestEditsUptoCard
end Rows
end Go.Proofs.YtilbffgpniomcaaGreatDoor
