/-
  DERIVED. GIVEN WITH THE SEED: THE CARDS: each row of YtnahpghbodmdbaaDoorRows.lean that lists a variable, with what it lists TIED to the program's text (the seventh form; the later family's looks); each row that meets fmt, with fmt's text TOLD by the authors' own Lean function (tested against real Go, not proved from fmt's source: count such statements apart). THE CARD IS WHAT COUNTS. Prove the row's statement (the work); the ties are given (YtnahpghbodmdbaaDoorTie.lean); close each card by the builder's one call (the guide's Derived/Test/ToyasCard.lean, 'card_holds'). Laid BY PROGRAM, IN A SANDBOX (cutbox-door.mjs). By AI agents, Wed Nov 11 2026. No macro, syntax, notation, axiom, sorry.
-/
import Derived.Test.YtnahpghbodmdbaaDoorRows
import GoSem.ClaimSeven
namespace Go.Proofs.YtnahpghbodmdbaaDoor
namespace Rows

/-- THE TIED CARD OF 'laws.FnExactPagesGet'. -/
def fnExactPagesGetCard : Claim7 := { stood := { row := fnExactPagesGetRow, standIns := [], harness := (true, "913d32dbc3c7423afdc168293a8c44d9060e4ea1e6e9586e179e65864fd058b7"), looks := true }, kinds := [], alts := [], laidByText := true, laidKinds := [.handle], laidTests := true, laidLooks := .later }
def FnExactPagesGetCardSaid : Prop := Claim7.holds Tryd.pinned (.plain (OpenSpec.ofChange fnExactPagesGetSpec)) fnExactPagesGetCard

/-- THE TIED CARD OF 'laws.FnExactPagesDrop'. -/
def fnExactPagesDropCard : Claim7 := { stood := { row := fnExactPagesDropRow, standIns := [], harness := (true, "913d32dbc3c7423afdc168293a8c44d9060e4ea1e6e9586e179e65864fd058b7"), looks := true }, kinds := [], alts := [], laidByText := true, laidKinds := [.handle], laidTests := true, laidLooks := .later }
def FnExactPagesDropCardSaid : Prop := Claim7.holds Tryd.pinned (.plain (OpenSpec.ofChange fnExactPagesDropSpec)) fnExactPagesDropCard

/-- THE SECOND FORM's CARD OF 'laws.FnExactPagesGet'. -/
def fnExactPagesGetUptoCard : Claim7 := { stood := { row := fnExactPagesGetUptoRow, standIns := [], harness := (true, "913d32dbc3c7423afdc168293a8c44d9060e4ea1e6e9586e179e65864fd058b7"), looks := true }, kinds := [], alts := [], laidByText := true, laidKinds := [.handle], laidTests := true, laidLooks := .later }
def FnExactPagesGetUptoCardSaid : Prop := Claim7.holds Tryd.pinned (.plain (OpenSpec.upto fnExactPagesGetSpec)) fnExactPagesGetUptoCard

/-- THE SECOND FORM's CARD OF 'laws.FnExactPagesDrop'. -/
def fnExactPagesDropUptoCard : Claim7 := { stood := { row := fnExactPagesDropUptoRow, standIns := [], harness := (true, "913d32dbc3c7423afdc168293a8c44d9060e4ea1e6e9586e179e65864fd058b7"), looks := true }, kinds := [], alts := [], laidByText := true, laidKinds := [.handle], laidTests := true, laidLooks := .later }
def FnExactPagesDropUptoCardSaid : Prop := Claim7.holds Tryd.pinned (.plain (OpenSpec.upto fnExactPagesDropSpec)) fnExactPagesDropUptoCard
end Rows
end Go.Proofs.YtnahpghbodmdbaaDoor
