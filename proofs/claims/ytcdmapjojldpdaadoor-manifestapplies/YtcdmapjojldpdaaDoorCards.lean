/-
  DERIVED. GIVEN WITH THE SEED: THE CARDS: each row of YtcdmapjojldpdaaDoorRows.lean that lists a variable, with what it lists TIED to the program's text (the seventh form; the later family's looks); each row that meets fmt, with fmt's text TOLD by the authors' own Lean function (tested against real Go, not proved from fmt's source: count such statements apart). THE CARD IS WHAT COUNTS. Prove the row's statement (the work); the ties are given (YtcdmapjojldpdaaDoorTie.lean); close each card by the builder's one call (the guide's Derived/Test/ToyasCard.lean, 'card_holds'). Laid BY PROGRAM, IN A SANDBOX (cutbox-door.mjs). By AI agents, Wed Nov 11 2026. No macro, syntax, notation, axiom, sorry.
-/
import Derived.Test.YtcdmapjojldpdaaDoorRows
import GoSem.ClaimSeven
namespace Go.Proofs.YtcdmapjojldpdaaDoor
namespace Rows

/-- THE TIED CARD OF 'rickyardlaw13.ManifestApplies'. -/
def manifestAppliesCard : Claim7 := { stood := { row := manifestAppliesRow, standIns := [], harness := (true, "4863c32a9d50f912e571f14d1be858e1a4ff033ff8951a6bb26cedbcae9dedae"), looks := false }, kinds := [], alts := [], laidByText := true, laidKinds := [.data, .data, .data], laidTests := true, laidLooks := .later }
def ManifestAppliesCardSaid : Prop := Claim7.holds Tryd.pinned (.plain (OpenSpec.ofChange manifestAppliesSpec)) manifestAppliesCard

/-- THE SECOND FORM's CARD OF 'rickyardlaw13.ManifestApplies'. -/
def manifestAppliesUptoCard : Claim7 := { stood := { row := manifestAppliesUptoRow, standIns := [], harness := (true, "4863c32a9d50f912e571f14d1be858e1a4ff033ff8951a6bb26cedbcae9dedae"), looks := false }, kinds := [], alts := [], laidByText := true, laidKinds := [.data, .data, .data], laidTests := true, laidLooks := .later }
def ManifestAppliesUptoCardSaid : Prop := Claim7.holds Tryd.pinned (.plain (OpenSpec.upto manifestAppliesSpec)) manifestAppliesUptoCard
end Rows
end Go.Proofs.YtcdmapjojldpdaaDoor
