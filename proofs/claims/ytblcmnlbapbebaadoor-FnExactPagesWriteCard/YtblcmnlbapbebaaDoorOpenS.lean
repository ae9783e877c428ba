/- What came in, opened: strings. -/
import Derived.Test.YtblcmnlbapbebaaDoorProg
import Derived.Test.YtblcmnlbapbebaaDoorRep
import Derived.ProofKit
import Derived.SliceStrings
import Derived.ChangeOld
namespace Go.Proofs.YtblcmnlbapbebaaDoor
open Go.RowKit Go.ChangeShapes Go.WideShapes Go.ChangeAt

theorem add_at (b o : Nat) (n : Nat) : (⟨b, o, none⟩ : Addr).add n = ⟨b, o + n, none⟩ := by
  unfold Addr.add
  split
  · rename_i h; subst h; rfl
  · rfl

theorem list_of {α : Type} (f : Nat → Option α) : ∀ len, (∀ i, i < len → ∃ t, f i = some t) → ∃ kids : List α, kids.length = len ∧ ∀ i (h : i < kids.length), f i = some kids[i]
  | 0, _ => ⟨[], rfl, fun i h => by simp at h⟩
  | len + 1, hf => by
    obtain ⟨kids, h1, h2⟩ := list_of f len fun i hi => hf i (by omega)
    obtain ⟨t, ht⟩ := hf len (by omega)
    refine ⟨kids ++ [t], by simp [h1], fun i hi => ?_⟩
    by_cases hlt : i < kids.length
    · rw [List.getElem_append_left hlt]; exact h2 i hlt
    · have e : i = kids.length := by simp at hi; omega
      subst e
      rw [← h1] at ht
      rw [ht]
      simp

section
variable {H : Type} {enc : TypeId × Value → H} {w : World} {spare : Nat → Bool} {held : Bool}

theorem cellsB : Tryd.prog.cellsOf 4 = 1 := by kernel_rfl
theorem cellsI : Tryd.prog.cellsOf 3 = 1 := by kernel_rfl
theorem cellsS : Tryd.prog.cellsOf 9 = 1 := by kernel_rfl

end
end Go.Proofs.YtblcmnlbapbebaaDoor
