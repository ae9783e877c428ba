/-
  DERIVED. GIVEN WITH THE SEED: THE CARDS: each row of YtdonbgedhikocaaDoorRows.lean that lists a variable, with what it lists TIED to the program's text (the seventh form; the later family's looks); each row that meets fmt, with fmt's text TOLD by the authors' own Lean function (tested against real Go, not proved from fmt's source: count such statements apart). THE CARD IS WHAT COUNTS. Prove the row's statement (the work); the ties are given (YtdonbgedhikocaaDoorTie.lean); close each card by the builder's one call (the guide's Derived/Test/ToyasCard.lean, 'card_holds'). Laid BY PROGRAM, IN A SANDBOX (cutbox-door.mjs). By AI agents, Wed Nov 11 2026. No macro, syntax, notation, axiom, sorry.
-/
import Derived.Test.YtdonbgedhikocaaDoorRows
import GoSem.ClaimSeven
namespace Go.Proofs.YtdonbgedhikocaaDoor
namespace Rows

/-- THE TIED CARD OF 'laws.FnExactTrailRead'. -/
def fnExactTrailReadCard : Claim7 := { stood := { row := fnExactTrailReadRow, standIns := [], harness := (true, "d73c2ed775e3c20ae6cbbfb2383bd99968f3d4cad8b66271ecdf7492d836960e"), looks := true }, kinds := [], alts := [], laidByText := true, laidKinds := [.data, .pinned], laidTests := true, laidLooks := .later }
def FnExactTrailReadCardSaid : Prop := Claim7.holds Tryd.pinned (.plain (OpenSpec.ofChange fnExactTrailReadSpec)) fnExactTrailReadCard

/-- THE SECOND FORM's CARD OF 'laws.FnExactTrailRead'. -/
def fnExactTrailReadUptoCard : Claim7 := { stood := { row := fnExactTrailReadUptoRow, standIns := [], harness := (true, "d73c2ed775e3c20ae6cbbfb2383bd99968f3d4cad8b66271ecdf7492d836960e"), looks := true }, kinds := [], alts := [], laidByText := true, laidKinds := [.data, .pinned], laidTests := true, laidLooks := .later }
def FnExactTrailReadUptoCardSaid : Prop := Claim7.holds Tryd.pinned (.plain (OpenSpec.upto fnExactTrailReadSpec)) fnExactTrailReadUptoCard
end Rows
end Go.Proofs.YtdonbgedhikocaaDoor
