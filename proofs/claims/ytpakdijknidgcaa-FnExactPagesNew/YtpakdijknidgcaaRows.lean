/-
  No cell of these rows narrows 'for every input' (looked for: loops, veiled, ifaces, maps, wideKeys, modest, calm, conditions, laid).
  DERIVED. THE GIVEN ROWS OF THIS SEAT. 2 by the template 'for every input the law returns true; each argument reads behind the call as it read before'; 0 by the template 'total and deterministic' (their statements: YtpakdijknidgcaaTotals.lean).
  GIVEN WITH THE SEED: the statements are not yours to turn. If you find one false, say at which input.
  Laid BY PROGRAM, IN A SANDBOX (cutbox-rows.mjs): the forced cells as the released guide's own fill.sh prints them over the translation 0c19373b5746ea97… (all of the seat's roots in one cut). By AI agents, Wed Nov 11 2026. No macro, syntax, notation, axiom, sorry.
-/
import Derived.Test.YtpakdijknidgcaaChecked
import GoSem.Claim
import GoSem.ClaimJoined
import GoSem.ClaimMapViews
import Derived.JoinedTies
import Derived.KernelRfl
namespace Go.Proofs.Ytpakdijknidgcaa
/- THE CELL 'sum', in the pinned program and in every row, IS THE sha256 OF THE DUMP (.gsa) THAT YtpakdijknidgcaaProg.lean LOADS. Nothing in Lean hashes anything: it is a label: what it is worth is what the hold of that sum in a sandbox is worth. -/
noncomputable def Try.pinned : Pinned := { name := "ytpakdijknidgcaa", sum := "0c19373b5746ea97455efe4574c8496e91670317e6fcd82d426626fc4a48d7bb", checked := Try.checked }
namespace Rows
def none {H : Type} : Left H := { results := [], args := [] }

/-- 'laws.FnExactPagesNew': WHATEVER THE INPUT: true; the input reads as it did. -/
def fnExactPagesNewSpec : ChangeSpec := { name := "fnExactPagesNew", fn := fun _ => fun
  | [] => { results := [.lit (.bool true)], args := [] }
  | _ => none }
def fnExactPagesNewRow : OpenClaim := { program := "ytpakdijknidgcaa", sum := "0c19373b5746ea97455efe4574c8496e91670317e6fcd82d426626fc4a48d7bb", func := "loop.example/changetrail/laws.FnExactPagesNew", spec := "fnExactPagesNew", unfollowed := true, recurses := true, apart := false }
def FnExactPagesNewSaid : Prop := fnExactPagesNewRow.holds Try.pinned (OpenSpec.ofChange fnExactPagesNewSpec)

/-- ITS FALSE NEIGHBOUR: 'it returns false'. Refute it at one input. -/
def fnExactPagesNewWrong : ChangeSpec := { name := "fnExactPagesNew", fn := fun _ => fun
  | [] => { results := [.lit (.bool false)], args := [] }
  | _ => none }
def FnExactPagesNewWrongFalsely : Prop := fnExactPagesNewRow.holds Try.pinned (OpenSpec.ofChange fnExactPagesNewWrong)

/-- 'laws.FnExactPagesNeed': WHATEVER THE INPUT: true; the input reads as it did. -/
def fnExactPagesNeedSpec : ChangeSpec := { name := "fnExactPagesNeed", fn := fun _ => fun
  | [d] => { results := [.lit (.bool true)], args := [d] }
  | _ => none }
def fnExactPagesNeedRow : OpenClaim := { program := "ytpakdijknidgcaa", sum := "0c19373b5746ea97455efe4574c8496e91670317e6fcd82d426626fc4a48d7bb", func := "loop.example/changetrail/laws.FnExactPagesNeed", spec := "fnExactPagesNeed", apart := false }
def FnExactPagesNeedSaid : Prop := fnExactPagesNeedRow.holds Try.pinned (OpenSpec.ofChange fnExactPagesNeedSpec)

/-- ITS FALSE NEIGHBOUR: 'it returns false'. Refute it at one input. -/
def fnExactPagesNeedWrong : ChangeSpec := { name := "fnExactPagesNeed", fn := fun _ => fun
  | [d] => { results := [.lit (.bool false)], args := [d] }
  | _ => none }
def FnExactPagesNeedWrongFalsely : Prop := fnExactPagesNeedRow.holds Try.pinned (OpenSpec.ofChange fnExactPagesNeedWrong)

/- THE SECOND FORM. 'bulk': how many values and letters a reading holds, each counted each time it is reached (what is shared counts as often as it is met; a slice's spare places count too). A statement '..UptoSaid' is the law's where the arguments, and the package variables that the reading takes, are together of bulk at most 1048576: NARROWER than '..Said'. Prove '..Said' where nothing that the law and all that it calls make is longer than what came in: it says more and counts as full. Else prove '..UptoSaid'. A law counts once. -/
mutual
def uptoBulk {H : Type} : DataW H → Nat
  | .lit (.string bytes) => bytes.length + 1
  | .lit _ => 1
  | .nil => 1
  | .ptr d => uptoBulk d + 1
  | .slice elems spare => uptoBulkAll elems + uptoBulkAll spare + 1
  | .agg parts => uptoBulkAll parts + 1
  | .iface _ d => uptoBulk d + 1
  | .map entries => uptoBulkEntries entries + 1
  | .held _ => 1
def uptoBulkAll {H : Type} : List (DataW H) → Nat
  | [] => 0
  | d :: r => uptoBulk d + uptoBulkAll r
def uptoBulkEntries {H : Type} : List (Lit × DataW H) → Nat
  | [] => 0
  | x :: r => uptoBulkEntry x + uptoBulkEntries r
def uptoBulkEntry {H : Type} : Lit × DataW H → Nat
  | (.string bytes, d) => bytes.length + uptoBulk d + 1
  | (_, d) => uptoBulk d + 1
 end
def uptoSmall : (H : Type) → List (DataW H) → Bool := fun _ ds => decide (uptoBulkAll ds ≤ 1048576)
def OpenSpec.upto (s : _root_.Go.ChangeSpec) : _root_.Go.OpenSpec := { _root_.Go.OpenSpec.ofChange s with cond := some uptoSmall }

/-- 'laws.FnExactPagesNew', WHERE WHAT IT READS IS OF BULK AT MOST 1048576: true; the input reads as it did. -/
def fnExactPagesNewUptoRow : OpenClaim := { program := "ytpakdijknidgcaa", sum := "0c19373b5746ea97455efe4574c8496e91670317e6fcd82d426626fc4a48d7bb", func := "loop.example/changetrail/laws.FnExactPagesNew", spec := "fnExactPagesNew", unfollowed := true, recurses := true, apart := false, narrowed := true }
def FnExactPagesNewUptoSaid : Prop := fnExactPagesNewUptoRow.holds Try.pinned (OpenSpec.upto fnExactPagesNewSpec)

/-- 'laws.FnExactPagesNeed', WHERE WHAT IT READS IS OF BULK AT MOST 1048576: true; the input reads as it did. -/
def fnExactPagesNeedUptoRow : OpenClaim := { program := "ytpakdijknidgcaa", sum := "0c19373b5746ea97455efe4574c8496e91670317e6fcd82d426626fc4a48d7bb", func := "loop.example/changetrail/laws.FnExactPagesNeed", spec := "fnExactPagesNeed", apart := false, narrowed := true }
def FnExactPagesNeedUptoSaid : Prop := fnExactPagesNeedUptoRow.holds Try.pinned (OpenSpec.upto fnExactPagesNeedSpec)

end Rows
end Go.Proofs.Ytpakdijknidgcaa
