/-
  DERIVED. GIVEN WITH THE SEED: THE CARDS: each row of YtnfidecbbijpfaaDoorRows.lean that lists a variable, with what it lists TIED to the program's text (the seventh form; the later family's looks); each row that meets fmt, with fmt's text TOLD by the authors' own Lean function (tested against real Go, not proved from fmt's source: count such statements apart). THE CARD IS WHAT COUNTS. Prove the row's statement (the work); the ties are given (YtnfidecbbijpfaaDoorTie.lean); close each card by the builder's one call (the guide's Derived/Test/ToyasCard.lean, 'card_holds'). Laid BY PROGRAM, IN A SANDBOX (cutbox-door.mjs). By AI agents, Wed Nov 11 2026. No macro, syntax, notation, axiom, sorry.
-/
import Derived.Test.YtnfidecbbijpfaaDoorRows
import GoSem.ClaimSeven
namespace Go.Proofs.YtnfidecbbijpfaaDoor
namespace Rows

/-- THE TIED CARD OF 'laws.FnExactTreeRead'. -/
def fnExactTreeReadCard : Claim7 := { stood := { row := fnExactTreeReadRow, standIns := [], harness := (true, "d3f3cc75be855f6385396ae0e0ec68e848ddb520e8e94b183e6e80978fd4fc4f"), looks := true }, kinds := [], alts := [], laidByText := true, laidKinds := [.handle], laidTests := true, laidLooks := .later }
def FnExactTreeReadCardSaid : Prop := Claim7.holds Tryd.pinned (.plain (OpenSpec.ofChange fnExactTreeReadSpec)) fnExactTreeReadCard

/-- THE TIED CARD OF 'laws.FnExactTreeList'. -/
def fnExactTreeListCard : Claim7 := { stood := { row := fnExactTreeListRow, standIns := [], harness := (true, "d3f3cc75be855f6385396ae0e0ec68e848ddb520e8e94b183e6e80978fd4fc4f"), looks := true }, kinds := [], alts := [], laidByText := true, laidKinds := [.handle], laidTests := true, laidLooks := .later }
def FnExactTreeListCardSaid : Prop := Claim7.holds Tryd.pinned (.plain (OpenSpec.ofChange fnExactTreeListSpec)) fnExactTreeListCard

/-- THE SECOND FORM's CARD OF 'laws.FnExactTreeRead'. -/
def fnExactTreeReadUptoCard : Claim7 := { stood := { row := fnExactTreeReadUptoRow, standIns := [], harness := (true, "d3f3cc75be855f6385396ae0e0ec68e848ddb520e8e94b183e6e80978fd4fc4f"), looks := true }, kinds := [], alts := [], laidByText := true, laidKinds := [.handle], laidTests := true, laidLooks := .later }
def FnExactTreeReadUptoCardSaid : Prop := Claim7.holds Tryd.pinned (.plain (OpenSpec.upto fnExactTreeReadSpec)) fnExactTreeReadUptoCard

/-- THE SECOND FORM's CARD OF 'laws.FnExactTreeList'. -/
def fnExactTreeListUptoCard : Claim7 := { stood := { row := fnExactTreeListUptoRow, standIns := [], harness := (true, "d3f3cc75be855f6385396ae0e0ec68e848ddb520e8e94b183e6e80978fd4fc4f"), looks := true }, kinds := [], alts := [], laidByText := true, laidKinds := [.handle], laidTests := true, laidLooks := .later }
def FnExactTreeListUptoCardSaid : Prop := Claim7.holds Tryd.pinned (.plain (OpenSpec.upto fnExactTreeListSpec)) fnExactTreeListUptoCard
end Rows
end Go.Proofs.YtnfidecbbijpfaaDoor
