/- Lists of records of three cells: how they lie in memory, in memory of their own, gathered by append; three cells of one written. -/
import Derived.Test.YtblcmnlbapbebaaDoorLow
import Derived.Test.YtblcmnlbapbebaaDoorMarkT
namespace Go.Proofs.YtblcmnlbapbebaaDoor
open Go.RowKit

abbrev V3 := Value × Value × Value

/-- The value is a slice of these records, three cells each. -/
def RcsAt {α : Type} (f : α → V3) (w : World) (lo hi : Nat) (v : Value) (l : List α) : Prop :=
  ∃ a cap, v = .slice a l.length cap ∧ l.length ≤ maxLen ∧
    (0 < l.length → ∃ b o, a = some ⟨b, o, none⟩ ∧ lo ≤ b ∧ b < hi ∧ ∀ (i : Nat) (h : i < l.length),
      w.cell? ⟨b, o + i * 3, none⟩ = some (f l[i]).1 ∧ w.cell? ⟨b, o + i * 3 + 1, none⟩ = some (f l[i]).2.1 ∧ w.cell? ⟨b, o + i * 3 + 2, none⟩ = some (f l[i]).2.2)
theorem RcsAt.same {α : Type} {f : α → V3} {w w' : World} {lo hi : Nat} {v : Value} {l : List α} (h : RcsAt f w lo hi v l) (hs : SameIn lo hi w w') : RcsAt f w' lo hi v l := by
  obtain ⟨a, cap, hv, hl, hc⟩ := h
  refine ⟨a, cap, hv, hl, fun h0 => ?_⟩
  obtain ⟨b, o, ha, h1, h2, hcell⟩ := hc h0
  refine ⟨b, o, ha, h1, h2, fun i hi => ?_⟩
  obtain ⟨c0, c1, c2⟩ := hcell i hi
  exact ⟨by rw [hs.cell (p := ⟨b, o + i * 3, none⟩) h1 h2]; exact c0, by rw [hs.cell (p := ⟨b, o + i * 3 + 1, none⟩) h1 h2]; exact c1, by rw [hs.cell (p := ⟨b, o + i * 3 + 2, none⟩) h1 h2]; exact c2⟩
theorem RcsAt.keep {α : Type} {f : α → V3} {w w' : World} {lo hi B : Nat} {v : Value} {l : List α} (h : RcsAt f w lo hi v l) (hb : Below B w w') (hB : hi ≤ B) : RcsAt f w' lo hi v l := h.same (sameIn_below hb hB)
theorem RcsAt.wide {α : Type} {f : α → V3} {w : World} {lo hi lo' hi' : Nat} {v : Value} {l : List α} (h : RcsAt f w lo hi v l) (h1 : lo' ≤ lo) (h2 : hi ≤ hi') : RcsAt f w lo' hi' v l := by
  obtain ⟨a, cap, hv, hl, hc⟩ := h
  refine ⟨a, cap, hv, hl, fun h0 => ?_⟩
  obtain ⟨b, o, ha, g1, g2, hcell⟩ := hc h0
  exact ⟨b, o, ha, by omega, by omega, hcell⟩
theorem RcsAt.len {α : Type} {f : α → V3} {w : World} {lo hi : Nat} {v : Value} {l : List α} (h : RcsAt f w lo hi v l) : l.length ≤ maxLen := by
  obtain ⟨a, cap, hv, hl, hc⟩ := h
  exact hl
theorem RcsAt.nil {α : Type} (f : α → V3) (w : World) (lo hi : Nat) (a : Option Addr) (cap : Nat) : RcsAt f w lo hi (.slice a 0 cap) ([] : List α) := ⟨a, cap, rfl, Nat.zero_le _, fun h => by simp at h⟩

/-- A slice of these records in block b, from its beginning on, that may be written. -/
def OwnRcs {α : Type} (f : α → V3) (w : World) (lo hi b : Nat) (v : Value) (l : List α) : Prop :=
  (∃ a cap, v = .slice a l.length cap ∧ (0 < l.length → a = some ⟨b, 0, none⟩)) ∧ l.length ≤ maxLen ∧ (0 < l.length → lo ≤ b ∧ b < hi) ∧
    ∀ (i : Nat) (h : i < l.length), (w.cell? ⟨b, i * 3, none⟩ = some (f l[i]).1 ∧ w.cell? ⟨b, i * 3 + 1, none⟩ = some (f l[i]).2.1 ∧ w.cell? ⟨b, i * 3 + 2, none⟩ = some (f l[i]).2.2) ∧ ∀ j, w.frozen? ⟨b, j, none⟩ = false
theorem OwnRcs.rcs {α : Type} {f : α → V3} {w : World} {lo hi b : Nat} {v : Value} {l : List α} (h : OwnRcs f w lo hi b v l) : RcsAt f w lo hi v l := by
  obtain ⟨⟨a, cap, hv, ha⟩, h2, h4, h5⟩ := h
  refine ⟨a, cap, hv, h2, fun h0 => ⟨b, 0, ha h0, (h4 h0).1, (h4 h0).2, fun i hi => ?_⟩⟩
  simp only [Nat.zero_add]
  exact (h5 i hi).1
theorem OwnRcs.same {α : Type} {f : α → V3} {w w' : World} {lo hi b : Nat} {v : Value} {l : List α} (h : OwnRcs f w lo hi b v l) (hs : 0 < l.length → w'.heap[b]? = w.heap[b]?) : OwnRcs f w' lo hi b v l := by
  obtain ⟨h1, h2, h4, h5⟩ := h
  refine ⟨h1, h2, h4, fun i hi => ?_⟩
  have hb := hs (by omega)
  rw [World.cell?_of_block (a := ⟨b, i * 3, none⟩) hb, World.cell?_of_block (a := ⟨b, i * 3 + 1, none⟩) hb, World.cell?_of_block (a := ⟨b, i * 3 + 2, none⟩) hb]
  exact ⟨(h5 i hi).1, fun j => by rw [World.frozen?_of_block (a := ⟨b, j, none⟩) hb]; exact (h5 i hi).2 j⟩
theorem OwnRcs.wide {α : Type} {f : α → V3} {w : World} {lo hi lo' hi' b : Nat} {v : Value} {l : List α} (h : OwnRcs f w lo hi b v l) (h1 : lo' ≤ lo) (h2 : hi ≤ hi') : OwnRcs f w lo' hi' b v l := ⟨h.1, h.2.1, fun h0 => by have := h.2.2.1 h0; omega, h.2.2.2⟩
theorem OwnRcs.nil {α : Type} (f : α → V3) (w : World) (lo hi b : Nat) (a : Option Addr) (cap : Nat) : OwnRcs f w lo hi b (.slice a 0 cap) ([] : List α) :=
  ⟨⟨a, cap, rfl, fun h => by simp at h⟩, Nat.zero_le _, fun h => by simp at h, fun i h => by simp at h⟩
theorem OwnRcs.one {α : Type} {f : α → V3} {w : World} {lo hi b : Nat} {v : Value} {l : List α} (h : OwnRcs f w lo hi b v l) : OwnRcs f w b (b + 1) b v l := ⟨h.1, h.2.1, fun _ => ⟨Nat.le_refl _, Nat.lt_succ_self _⟩, h.2.2.2⟩

/-- The records' cells, one behind the other. -/
def flat3 {α : Type} (f : α → V3) (l : List α) : List Value := l.flatMap fun x => [(f x).1, (f x).2.1, (f x).2.2]
theorem flat3_snoc {α : Type} (f : α → V3) (l : List α) (x : α) : flat3 f (l ++ [x]) = flat3 f l ++ [(f x).1, (f x).2.1, (f x).2.2] := by simp [flat3]
theorem flat3_length {α : Type} (f : α → V3) : ∀ (l : List α), (flat3 f l).length = l.length * 3
  | [] => rfl
  | r :: l => by rw [flat3, List.flatMap_cons, List.length_append, ← flat3, flat3_length f l]; simp; omega
theorem flat3_at {α : Type} (f : α → V3) : ∀ (l : List α) (i : Nat) (h : i < l.length), (flat3 f l)[i * 3]? = some (f l[i]).1 ∧ (flat3 f l)[i * 3 + 1]? = some (f l[i]).2.1 ∧ (flat3 f l)[i * 3 + 2]? = some (f l[i]).2.2
  | [], i, h => by simp at h
  | r :: l, 0, h => by simp [flat3]
  | r :: l, i + 1, h => by
    have e : flat3 f (r :: l) = [(f r).1, (f r).2.1, (f r).2.2] ++ flat3 f l := by simp [flat3]
    have := flat3_at f l i (by simpa using h)
    rw [e, List.getElem?_append_right (by simp; omega), List.getElem?_append_right (by simp; omega), List.getElem?_append_right (by simp; omega)]
    have e1 : (i + 1) * 3 - 3 = i * 3 := by omega
    have e2 : (i + 1) * 3 + 1 - 3 = i * 3 + 1 := by omega
    have e3 : (i + 1) * 3 + 2 - 3 = i * 3 + 2 := by omega
    simp only [List.length_cons, List.length_nil, Nat.reduceAdd, List.getElem_cons_succ]
    rw [e1, e2, e3]
    exact this
theorem ownRcs_row {α : Type} {f : α → V3} {w : World} {base : Nat} {t : TypeId} {v : Value} {l : List α} (h : w.ownsRow base t 3 v l.length (flat3 f l)) : ∃ b, OwnRcs f w base w.heap.size b v l ∧ (0 < l.length → v.ownBlock = some b) := by
  rcases h.2 with ⟨e1, e2⟩ | ⟨g, cap, cur, e1, e2, e3, e4, e5, e6, e7⟩
  · exact ⟨0, ⟨⟨none, 0, by rw [e1, e2], fun h0 => by omega⟩, by omega, fun h0 => by omega, fun i hi => by omega⟩, fun h0 => by omega⟩
  · have hb : Blk w g cur t := e3
    refine ⟨g, ⟨⟨_, cap, e1, fun _ => rfl⟩, by omega, fun _ => ⟨e2, hb.lt⟩, fun i hi => ?_⟩, fun _ => by rw [e1]; rfl⟩
    have cl : ∀ j u, (flat3 f l)[j]? = some u → w.cell? ⟨g, j, none⟩ = some u := fun j u hu => by
      refine hb.cell j u ?_
      rw [← e7] at hu
      rw [← Array.getElem?_toList]
      by_cases hj : j < l.length * 3
      · rwa [List.getElem?_take_of_lt hj] at hu
      · rw [List.getElem?_eq_none (by rw [List.length_take]; omega)] at hu; cases hu
    obtain ⟨x0, x1, x2⟩ := flat3_at f l i hi
    exact ⟨⟨cl _ _ x0, cl _ _ x1, cl _ _ x2⟩, fun j => hb.frozen _⟩

/-- Three cells of one record written. -/
theorem OwnRcs.step {α : Type} {f : α → V3} {w w' : World} {lo hi b : Nat} {v : Value} {l : List α} {j : Nat} (h : OwnRcs f w lo hi b v l) (hj : j < l.length) (x : α)
    (c0 : w'.cell? ⟨b, j * 3, none⟩ = some (f x).1) (c1 : w'.cell? ⟨b, j * 3 + 1, none⟩ = some (f x).2.1) (c2 : w'.cell? ⟨b, j * 3 + 2, none⟩ = some (f x).2.2)
    (hc : ∀ y, y ≠ j * 3 → y ≠ j * 3 + 1 → y ≠ j * 3 + 2 → w'.cell? ⟨b, y, none⟩ = w.cell? ⟨b, y, none⟩) (hf : ∀ y, w'.frozen? ⟨b, y, none⟩ = w.frozen? ⟨b, y, none⟩) :
    OwnRcs f w' lo hi b v (l.set j x) := by
  obtain ⟨h1, h2, h4, h5⟩ := h
  refine ⟨by rw [List.length_set]; exact h1, by rw [List.length_set]; exact h2, fun _ => h4 (by omega), fun i hi' => ?_⟩
  rw [List.length_set] at hi'
  refine ⟨?_, fun y => by rw [hf]; exact (h5 i hi').2 y⟩
  rw [List.getElem_set]
  by_cases e : j = i
  · subst e
    rw [if_pos rfl]
    exact ⟨c0, c1, c2⟩
  · rw [if_neg e, hc _ (by omega) (by omega) (by omega), hc _ (by omega) (by omega) (by omega), hc _ (by omega) (by omega) (by omega)]
    exact (h5 i hi').1

/-- Three cells of a block written, memory made in between. -/
theorem set3_cells {b o : Nat} {u0 u1 u2 v0 v1 v2 : Value} {w w1 w2 : World} (hb : b < w.heap.size) (h0 : w.cell? ⟨b, o, none⟩ = some v0) (h1 : w.cell? ⟨b, o + 1, none⟩ = some v1) (h2 : w.cell? ⟨b, o + 2, none⟩ = some v2)
    (hB1 : Below (w.setCell ⟨b, o, none⟩ u0).heap.size (w.setCell ⟨b, o, none⟩ u0) w1) (hB2 : Below (w1.setCell ⟨b, o + 1, none⟩ u1).heap.size (w1.setCell ⟨b, o + 1, none⟩ u1) w2) :
    (w2.setCell ⟨b, o + 2, none⟩ u2).cell? ⟨b, o, none⟩ = some u0 ∧ (w2.setCell ⟨b, o + 2, none⟩ u2).cell? ⟨b, o + 1, none⟩ = some u1 ∧ (w2.setCell ⟨b, o + 2, none⟩ u2).cell? ⟨b, o + 2, none⟩ = some u2 ∧
      (∀ y, y ≠ o → y ≠ o + 1 → y ≠ o + 2 → (w2.setCell ⟨b, o + 2, none⟩ u2).cell? ⟨b, y, none⟩ = w.cell? ⟨b, y, none⟩) ∧ (∀ y, (w2.setCell ⟨b, o + 2, none⟩ u2).frozen? ⟨b, y, none⟩ = w.frozen? ⟨b, y, none⟩) := by
  have ne : ∀ x y : Nat, x ≠ y → (⟨b, x, none⟩ : Addr) ≠ ⟨b, y, none⟩ := fun x y h e => by injection e with _ e2 _; exact h e2
  have z1 : b < (w.setCell ⟨b, o, none⟩ u0).heap.size := by simp [World.setCell]; exact hb
  have z1' : b < w1.heap.size := Nat.lt_of_lt_of_le z1 hB1.size
  have z2 : b < (w1.setCell ⟨b, o + 1, none⟩ u1).heap.size := by simp [World.setCell]; exact z1'
  have k1 : ∀ x, w1.cell? ⟨b, x, none⟩ = (w.setCell ⟨b, o, none⟩ u0).cell? ⟨b, x, none⟩ := fun x => hB1.cell (p := ⟨b, x, none⟩) z1
  have k2 : ∀ x, w2.cell? ⟨b, x, none⟩ = (w1.setCell ⟨b, o + 1, none⟩ u1).cell? ⟨b, x, none⟩ := fun x => hB2.cell (p := ⟨b, x, none⟩) z2
  have g : ∀ y, y ≠ o → y ≠ o + 1 → y ≠ o + 2 → (w2.setCell ⟨b, o + 2, none⟩ u2).cell? ⟨b, y, none⟩ = w.cell? ⟨b, y, none⟩ := fun y a1 a2 a3 => by
    rw [World.cell?_setCell_other _ _ _ _ (ne _ _ (by omega)), k2, World.cell?_setCell_other _ _ _ _ (ne _ _ (by omega)), k1, World.cell?_setCell_other _ _ _ _ (ne _ _ (by omega))]
  refine ⟨?_, ?_, ?_, g, fun y => ?_⟩
  · rw [World.cell?_setCell_other _ _ _ _ (ne _ _ (by omega)), k2, World.cell?_setCell_other _ _ _ _ (ne _ _ (by omega)), k1, World.cell?_setCell_same' _ _ _ (by rw [h0]; rfl)]
  · rw [World.cell?_setCell_other _ _ _ _ (ne _ _ (by omega)), k2, World.cell?_setCell_same' _ _ _ (by rw [k1, World.cell?_setCell_other _ _ _ _ (ne _ _ (by omega)), h1]; rfl)]
  · rw [World.cell?_setCell_same' _ _ _ (by rw [k2, World.cell?_setCell_other _ _ _ _ (ne _ _ (by omega)), k1, World.cell?_setCell_other _ _ _ _ (ne _ _ (by omega)), h2]; rfl)]
  · rw [World.frozen?_setCell, hB2.frozen (p := ⟨b, y, none⟩) z2, World.frozen?_setCell, hB1.frozen (p := ⟨b, y, none⟩) z1, World.frozen?_setCell]

end Go.Proofs.YtblcmnlbapbebaaDoor
