/- The program's PagesOk and PagesFree; the specification's PagesFree. -/
import Derived.Test.YtblcmnlbapbebaaDoorPgSh
import Derived.Test.YtblcmnlbapbebaaDoorPgSO
import Derived.Test.YtblcmnlbapbebaaDoorCode
import Derived.Test.YtblcmnlbapbebaaDoorPgz
namespace Go.Proofs.YtblcmnlbapbebaaDoor
open Go.RowKit

/-- How many pages are free. -/
def freeV (P : List Pg) (N : List Pn) : Nat := match okV P N with | none => 0 | some T => (freeN T 96).length
theorem okV_out {P : List Pg} {N : List Pn} {T : List Bool} (h : okV P N = some T) : P.length = 96 ∧ ∀ (a : Nat) (ha : a < P.length), P[a].used = T.getD a false := by
  unfold okV at h
  split at h
  · rename_i hh
    cases ht : takeAll P N (List.replicate 96 false) with
    | none => rw [ht] at h; cases h
    | some T' =>
      rw [ht] at h
      simp only at h
      split at h
      · rename_i hr
        cases h
        refine ⟨hh.1, fun a ha => ?_⟩
        cases htk : T.getD a false with
        | true =>
          rcases (takeAll_out P N _ _ (by rw [List.length_replicate]; exact hh.1.symm) ht).2.2 a ha htk with h1 | h1
          · rw [rep_getD] at h1; cases h1
          · exact h1.1
        | false =>
          have := of_decide_eq_true hr a ha htk
          simp only [freeB, Bool.and_eq_true, decide_eq_true_eq] at this
          simpa using this.1.1
      · cases h
  · cases h

end Go.Proofs.YtblcmnlbapbebaaDoor
