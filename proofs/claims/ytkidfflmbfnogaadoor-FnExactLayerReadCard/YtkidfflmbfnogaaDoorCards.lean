/-
  DERIVED. GIVEN WITH THE SEED: THE CARDS: each row of YtkidfflmbfnogaaDoorRows.lean that lists a variable, with what it lists TIED to the program's text (the seventh form; the later family's looks); each row that meets fmt, with fmt's text TOLD by the authors' own Lean function (tested against real Go, not proved from fmt's source: count such statements apart). THE CARD IS WHAT COUNTS. Prove the row's statement (the work); the ties are given (YtkidfflmbfnogaaDoorTie.lean); close each card by the builder's one call (the guide's Derived/Test/ToyasCard.lean, 'card_holds'). Laid BY PROGRAM, IN A SANDBOX (cutbox-door.mjs). By AI agents, Wed Nov 11 2026. No macro, syntax, notation, axiom, sorry.
-/
import Derived.Test.YtkidfflmbfnogaaDoorRows
import GoSem.ClaimSeven
namespace Go.Proofs.YtkidfflmbfnogaaDoor
namespace Rows

/-- THE TIED CARD OF 'laws.FnExactLayerRead'. -/
def fnExactLayerReadCard : Claim7 := { stood := { row := fnExactLayerReadRow, standIns := [], harness := (true, "5c435faa3a227fcae3ddd440b2b93bd5724977812c1ed451dbe65a65f9b5d8fe"), looks := true }, kinds := [], alts := [], laidByText := true, laidKinds := [.data, .data, .data, .data, .sentinel, .sentinel, .data, .pinned], laidTests := true, laidLooks := .later }
def FnExactLayerReadCardSaid : Prop := Claim7.holds Tryd.pinned (.plain (OpenSpec.ofChange fnExactLayerReadSpec)) fnExactLayerReadCard

/-- THE SECOND FORM's CARD OF 'laws.FnExactLayerRead'. -/
def fnExactLayerReadUptoCard : Claim7 := { stood := { row := fnExactLayerReadUptoRow, standIns := [], harness := (true, "5c435faa3a227fcae3ddd440b2b93bd5724977812c1ed451dbe65a65f9b5d8fe"), looks := true }, kinds := [], alts := [], laidByText := true, laidKinds := [.data, .data, .data, .data, .sentinel, .sentinel, .data, .pinned], laidTests := true, laidLooks := .later }
def FnExactLayerReadUptoCardSaid : Prop := Claim7.holds Tryd.pinned (.plain (OpenSpec.upto fnExactLayerReadSpec)) fnExactLayerReadUptoCard
end Rows
end Go.Proofs.YtkidfflmbfnogaaDoor
