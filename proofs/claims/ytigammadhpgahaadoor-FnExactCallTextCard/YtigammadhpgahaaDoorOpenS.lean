/- What came in, opened: strings. -/
import Derived.Test.YtigammadhpgahaaDoorProg
import Derived.Test.YtigammadhpgahaaDoorRep
import Derived.ProofKit
import Derived.SliceStrings
import Derived.ChangeOld
namespace Go.Proofs.YtigammadhpgahaaDoor
open Go.RowKit Go.ChangeShapes Go.WideShapes Go.ChangeAt

theorem add_at (b o : Nat) (n : Nat) : (⟨b, o, none⟩ : Addr).add n = ⟨b, o + n, none⟩ := by
  unfold Addr.add
  split
  · rename_i h; subst h; rfl
  · rfl

theorem list_of {α : Type} (f : Nat → Option α) : ∀ len, (∀ i, i < len → ∃ t, f i = some t) → ∃ kids : List α, kids.length = len ∧ ∀ i (h : i < kids.length), f i = some kids[i]
  | 0, _ => ⟨[], rfl, fun i h => by simp at h⟩
  | len + 1, hf => by
    obtain ⟨kids, h1, h2⟩ := list_of f len fun i hi => hf i (by omega)
    obtain ⟨t, ht⟩ := hf len (by omega)
    refine ⟨kids ++ [t], by simp [h1], fun i hi => ?_⟩
    by_cases hlt : i < kids.length
    · rw [List.getElem_append_left hlt]; exact h2 i hlt
    · have e : i = kids.length := by simp at hi; omega
      subst e
      rw [← h1] at ht
      rw [ht]
      simp

section
variable {H : Type} {enc : TypeId × Value → H} {w : World} {spare : Nat → Bool} {held : Bool}

theorem open_strs_at {fuel : Nat} {v : Value} {x : DataW H × List MemPlace} (h : DataW.trod enc Tryd.prog w 0 spare held fuel 22 [v] = some x) : ∃ l, StrsAt w 0 w.heap.size v l := by
  rcases open_strings Tryd.underlying22 Tryd.underlying9 (by kernel_rfl) h with ⟨hcs, _⟩ | ⟨a, len, cap, ss, hcs, _, hl, hm, hz, _, hcell, hws⟩
  · simp only [List.cons.injEq, and_true] at hcs
    subst hcs
    exact ⟨[], none, 0, rfl, Nat.zero_le _, fun i h => by simp at h, fun h => by simp at h⟩
  · simp only [List.cons.injEq, and_true] at hcs
    subst hcs
    have hlen : len ≤ ss.length := by rw [hz]; split <;> omega
    refine ⟨ss.take len, some a, cap, ?_, ?_, fun i hi => ?_, fun h0 => ?_⟩
    · rw [List.length_take, Nat.min_eq_left hlen]
    · rw [List.length_take, Nat.min_eq_left hlen]; exact Nat.le_trans hl hm
    · rw [List.getElem_take]
      exact hws _ (List.getElem_mem _)
    · rw [List.length_take, Nat.min_eq_left hlen] at h0
      obtain ⟨b, o, spot⟩ := a
      have hc0 := hcell 0 (by omega)
      have hspot : spot = none := by simpa [Addr.add] using World.cell?_spot hc0
      subst hspot
      refine ⟨b, o, rfl, Nat.zero_le _, World.block_lt_of_cell? w _ hc0, fun i hi => ?_⟩
      have hi' : i < len := by rw [List.length_take] at hi; omega
      have := hcell i (by omega)
      rw [add_at] at this
      rw [this, List.getElem_take, List.getD_eq_getElem?_getD, List.getElem?_eq_getElem (by omega)]
      rfl

theorem cellsB : Tryd.prog.cellsOf 4 = 1 := by kernel_rfl
theorem cellsI : Tryd.prog.cellsOf 3 = 1 := by kernel_rfl
theorem cellsS : Tryd.prog.cellsOf 9 = 1 := by kernel_rfl
theorem cellsN : Tryd.prog.cellsOf 22 = 1 := by kernel_rfl

end
end Go.Proofs.YtigammadhpgahaaDoor
