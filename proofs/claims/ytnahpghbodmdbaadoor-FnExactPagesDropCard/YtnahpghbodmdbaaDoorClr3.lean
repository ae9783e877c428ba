/- clear of one element of three cells (for slices.Delete of kept names). -/
import Derived.Test.YtnahpghbodmdbaaDoorPgC
import Derived.Lib.SliceRun
namespace Go.Proofs.YtnahpghbodmdbaaDoor
open Go.RowKit

theorem run_clear_one3 {P : Program} (w : World) (t e ty : TypeId) (z0 z1 z2 : Value) (ht : P.underlying t = some (.slice e)) (hv : ∀ w, (zeroValue e).run P w = .ok (.agg #[z0, z1, z2]) w) (hzc : (Value.agg #[z0, z1, z2]).cells = #[z0, z1, z2])
    (h1 : ∀ v ∈ [z0, z1, z2], v.oneCell' = true) (b o c : Nat) (hc : ∀ j, j < 3 → (w.cell? ⟨b, o + j, none⟩).isSome = true) (hf : ∀ j, j < 3 → w.frozen? ⟨b, o + j, none⟩ = false) :
    (Builtin.clear_ #[t] ty #[.slice (some ⟨b, o, none⟩) 1 c]).run P w = .ok (.tuple #[]) (w.setCells b o [z0, z1, z2]) := by
  have hzl : (Builtin.zeroCells (Value.agg #[z0, z1, z2]).cells 1).toList = [z0, z1, z2] := by
    rw [hzc]
    apply List.ext_getElem
    · simp [Builtin.zeroCells]
    · intro i h1 h2
      simp only [List.length_cons, List.length_nil] at h2
      rcases (by omega : i = 0 ∨ i = 1 ∨ i = 2) with rfl | rfl | rfl <;> simp [Builtin.zeroCells]
  have hst := run_storeCells_cells (P := P) b o [z0, z1, z2] 0 w (by simpa using hc) (by simpa using hf) h1
  simp only [Nat.add_zero] at hst
  simp [Builtin.clear_, run_underlying ht, hv, hzl, hst]

end Go.Proofs.YtnahpghbodmdbaaDoor
