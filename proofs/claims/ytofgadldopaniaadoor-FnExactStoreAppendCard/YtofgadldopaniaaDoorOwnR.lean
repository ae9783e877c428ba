/- Rows of strings of one's own: none; as strings. -/
import Derived.Test.YtofgadldopaniaaDoorCopyN
import Derived.Test.YtofgadldopaniaaDoorLow
namespace Go.Proofs.YtofgadldopaniaaDoor
open Go.RowKit

theorem own_none {w : World} {base b : Nat} {e : TypeId} (h : Blk w b #[] e) (hb : base ≤ b) : w.ownsRow base e 1 (.slice (some ⟨b, 0, none⟩) 0 0) 0 [] :=
  ⟨rfl, .inr ⟨b, 0, #[], rfl, hb, h, Nat.le_refl _, by unfold maxLen; omega, rfl, rfl⟩⟩
theorem strs_none (w : World) (lo hi : Nat) (a : Option Addr) (c : Nat) : StrsAt w lo hi (.slice a 0 c) [] := ⟨a, c, rfl, Nat.zero_le _, fun i h => by simp at h, fun h => by simp at h⟩
theorem strs_row {w : World} {base : Nat} {v : Value} {l : List ByteArray} (h : w.ownsRow base 9 1 v l.length (l.map .string)) (hl : l.length ≤ maxLen) (hs : ∀ (i : Nat) (h : i < l.length), l[i].size ≤ maxLen) : StrsAt w base w.heap.size v l := by
  obtain ⟨a, cap, rfl⟩ := ownsRow_form h
  refine ⟨a, cap, rfl, hl, hs, fun h0 => ?_⟩
  obtain ⟨g, cap', hv, hb, hlt⟩ := ownsRow_at h h0
  simp only [Value.slice.injEq, true_and] at hv
  obtain ⟨rfl, rfl⟩ := hv
  refine ⟨g, 0, rfl, hb, hlt, fun i hi => ?_⟩
  have := h.cellAt i (by omega)
  rw [Nat.zero_add, this, List.getElem?_map, List.getElem?_eq_getElem hi]; rfl

end Go.Proofs.YtofgadldopaniaaDoor
