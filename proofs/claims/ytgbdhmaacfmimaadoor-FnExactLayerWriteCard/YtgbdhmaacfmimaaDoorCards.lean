/-
  DERIVED. GIVEN WITH THE SEED: THE CARDS: each row of YtgbdhmaacfmimaaDoorRows.lean that lists a variable, with what it lists TIED to the program's text (the seventh form; the later family's looks); each row that meets fmt, with fmt's text TOLD by the authors' own Lean function (tested against real Go, not proved from fmt's source: count such statements apart). THE CARD IS WHAT COUNTS. Prove the row's statement (the work); the ties are given (YtgbdhmaacfmimaaDoorTie.lean); close each card by the builder's one call (the guide's Derived/Test/ToyasCard.lean, 'card_holds'). Laid BY PROGRAM, IN A SANDBOX (cutbox-door.mjs). By AI agents, Wed Nov 11 2026. No macro, syntax, notation, axiom, sorry.
-/
import Derived.Test.YtgbdhmaacfmimaaDoorRows
import GoSem.ClaimSeven
namespace Go.Proofs.YtgbdhmaacfmimaaDoor
namespace Rows

/-- THE TIED CARD OF 'laws.FnExactLayerWrite'. -/
def fnExactLayerWriteCard : Claim7 := { stood := { row := fnExactLayerWriteRow, standIns := [], harness := (true, "934826475fe63968eccd5e6ba80fe40e9c301df570ffe97985801075df32d682"), looks := false }, kinds := [], alts := [], laidByText := true, laidKinds := [.data, .data, .data, .data], laidTests := true, laidLooks := .later }
def FnExactLayerWriteCardSaid : Prop := Claim7.holds Tryd.pinned (.plain (OpenSpec.ofChange fnExactLayerWriteSpec)) fnExactLayerWriteCard

/-- THE SECOND FORM's CARD OF 'laws.FnExactLayerWrite'. -/
def fnExactLayerWriteUptoCard : Claim7 := { stood := { row := fnExactLayerWriteUptoRow, standIns := [], harness := (true, "934826475fe63968eccd5e6ba80fe40e9c301df570ffe97985801075df32d682"), looks := false }, kinds := [], alts := [], laidByText := true, laidKinds := [.data, .data, .data, .data], laidTests := true, laidLooks := .later }
def FnExactLayerWriteUptoCardSaid : Prop := Claim7.holds Tryd.pinned (.plain (OpenSpec.upto fnExactLayerWriteSpec)) fnExactLayerWriteUptoCard
end Rows
end Go.Proofs.YtgbdhmaacfmimaaDoor
