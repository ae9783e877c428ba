/-
  DERIVED. GIVEN WITH THE SEED: THE CARDS: each row of YtpakdijknidgcaaDoorRows.lean that lists a variable, with what it lists TIED to the program's text (the seventh form; the later family's looks); each row that meets fmt, with fmt's text TOLD by the authors' own Lean function (tested against real Go, not proved from fmt's source: count such statements apart). THE CARD IS WHAT COUNTS. Prove the row's statement (the work); the ties are given (YtpakdijknidgcaaDoorTie.lean); close each card by the builder's one call (the guide's Derived/Test/ToyasCard.lean, 'card_holds'). Laid BY PROGRAM, IN A SANDBOX (cutbox-door.mjs). By AI agents, Wed Nov 11 2026. No macro, syntax, notation, axiom, sorry.
-/
import Derived.Test.YtpakdijknidgcaaDoorRows
import GoSem.ClaimSeven
namespace Go.Proofs.YtpakdijknidgcaaDoor
namespace Rows

/-- THE TIED CARD OF 'laws.FnExactPagesOk'. -/
def fnExactPagesOkCard : Claim7 := { stood := { row := fnExactPagesOkRow, standIns := [], harness := (true, "c80605df724739989ae7af996063de96de5033c4c849f2959c05dabee7273cca"), looks := true }, kinds := [], alts := [], laidByText := true, laidKinds := [.handle], laidTests := true, laidLooks := .later }
def FnExactPagesOkCardSaid : Prop := Claim7.holds Tryd.pinned (.plain (OpenSpec.ofChange fnExactPagesOkSpec)) fnExactPagesOkCard

/-- THE TIED CARD OF 'laws.FnExactPagesFree'. -/
def fnExactPagesFreeCard : Claim7 := { stood := { row := fnExactPagesFreeRow, standIns := [], harness := (true, "c80605df724739989ae7af996063de96de5033c4c849f2959c05dabee7273cca"), looks := true }, kinds := [], alts := [], laidByText := true, laidKinds := [.handle], laidTests := true, laidLooks := .later }
def FnExactPagesFreeCardSaid : Prop := Claim7.holds Tryd.pinned (.plain (OpenSpec.ofChange fnExactPagesFreeSpec)) fnExactPagesFreeCard

/-- THE SECOND FORM's CARD OF 'laws.FnExactPagesOk'. -/
def fnExactPagesOkUptoCard : Claim7 := { stood := { row := fnExactPagesOkUptoRow, standIns := [], harness := (true, "c80605df724739989ae7af996063de96de5033c4c849f2959c05dabee7273cca"), looks := true }, kinds := [], alts := [], laidByText := true, laidKinds := [.handle], laidTests := true, laidLooks := .later }
def FnExactPagesOkUptoCardSaid : Prop := Claim7.holds Tryd.pinned (.plain (OpenSpec.upto fnExactPagesOkSpec)) fnExactPagesOkUptoCard

/-- THE SECOND FORM's CARD OF 'laws.FnExactPagesFree'. -/
def fnExactPagesFreeUptoCard : Claim7 := { stood := { row := fnExactPagesFreeUptoRow, standIns := [], harness := (true, "c80605df724739989ae7af996063de96de5033c4c849f2959c05dabee7273cca"), looks := true }, kinds := [], alts := [], laidByText := true, laidKinds := [.handle], laidTests := true, laidLooks := .later }
def FnExactPagesFreeUptoCardSaid : Prop := Claim7.holds Tryd.pinned (.plain (OpenSpec.upto fnExactPagesFreeSpec)) fnExactPagesFreeUptoCard
end Rows
end Go.Proofs.YtpakdijknidgcaaDoor
