/- markStringS: a list of strings in memory of its own becomes the list of its marks. -/
import Derived.Test.YtblcmnlbapbebaaDoorProg
import Derived.Test.YtblcmnlbapbebaaDoorMark
import Derived.Test.YtblcmnlbapbebaaDoorAsd
namespace Go.Proofs.YtblcmnlbapbebaaDoor
open Go.RowKit

/-- Only blocks from lo on and below hi are other than they were (and new ones). -/
structure InR (lo hi : Nat) (w w' : World) : Prop where
  os : w'.os = w.os
  tape : w'.tape = w.tape
  output : w'.output = w.output
  size : w.heap.size ≤ w'.heap.size
  block : ∀ k, k < w.heap.size → ¬ (lo ≤ k ∧ k < hi) → w'.heap[k]? = w.heap[k]?
theorem InR.refl (lo hi : Nat) (w : World) : InR lo hi w w := ⟨rfl, rfl, rfl, Nat.le_refl _, fun _ _ _ => rfl⟩
theorem InR.trans {lo hi : Nat} {a b c : World} (h : InR lo hi a b) (k : InR lo hi b c) : InR lo hi a c :=
  ⟨k.os.trans h.os, k.tape.trans h.tape, k.output.trans h.output, Nat.le_trans h.size k.size, fun j h1 h2 => (k.block j (Nat.lt_of_lt_of_le h1 h.size) h2).trans (h.block j h1 h2)⟩
theorem InR.wide {lo hi lo' hi' : Nat} {a b : World} (h : InR lo hi a b) (h1 : lo' ≤ lo) (h2 : hi ≤ hi') : InR lo' hi' a b :=
  ⟨h.os, h.tape, h.output, h.size, fun j g1 g2 => h.block j g1 (by omega)⟩
theorem InR.of_below {lo hi : Nat} {b c : World} (k : Below b.heap.size b c) : InR lo hi b c := ⟨k.os, k.tape, k.output, k.size, fun j h1 _ => k.block j h1⟩
theorem InR.below {lo hi : Nat} {a b c : World} (h : InR lo hi a b) (k : Below b.heap.size b c) : InR lo hi a c := h.trans (.of_below k)
theorem InR.set {lo hi : Nat} {a w : World} (h : InR lo hi a w) {p : Addr} (hp : lo ≤ p.block ∧ p.block < hi) (u : Value) : InR lo hi a (w.setCell p u) :=
  ⟨h.os, h.tape, h.output, by simpa using h.size, fun j h1 h2 => (Below.heap_setCell _ _ _ _ (by intro e; subst e; exact h2 hp)).trans (h.block j h1 h2)⟩
theorem InR.toBelow {lo hi B : Nat} {w w' : World} (h : InR lo hi w w') (h1 : B ≤ lo) (h2 : B ≤ w.heap.size) : Below B w w' := ⟨h.os, h.tape, h.output, h.size, fun k hk => h.block k (by omega) (by omega)⟩
theorem InR.sameIn {lo hi a b : Nat} {w w' : World} (h : InR lo hi w w') (h1 : ∀ k, a ≤ k → k < b → ¬ (lo ≤ k ∧ k < hi)) (h2 : b ≤ w.heap.size) : SameIn a b w w' := fun k g1 g2 => h.block k (by omega) (h1 k g1 g2)

def markL (k : Nat) (l : List ByteArray) : List ByteArray := (List.range l.length).map (fun i => mtext (k + i))
theorem markL_length (k : Nat) (l : List ByteArray) : (markL k l).length = l.length := by simp [markL]
theorem markL_get (k : Nat) (l : List ByteArray) (i : Nat) (h : i < (markL k l).length) : (markL k l)[i] = mtext (k + i) := by simp [markL]

/-- The first j of them are marked. -/
structure MarkedS (w : World) (lo hi b : Nat) (l : List ByteArray) (k j : Nat) (wr : World) : Prop where
  aside : Aside b w wr
  inr : InR lo hi w wr
  cells : ∀ (i : Nat) (h : i < l.length), wr.cell? ⟨b, i, none⟩ = some (.string (if i < j then mtext (k + i) else l[i])) ∧ wr.frozen? ⟨b, i, none⟩ = false

theorem MarkedS.step {w : World} {lo hi b : Nat} {l : List ByteArray} {k j : Nat} {wr w1 : World} (M : MarkedS w lo hi b l k j wr) (hb : b < w.heap.size) (hlo : lo ≤ b ∧ b < hi) (hj : j < l.length) (hB : Below wr.heap.size wr w1) :
    MarkedS w lo hi b l k (j + 1) (w1.setCell ⟨b, j, none⟩ (.string (mtext (k + j)))) := by
  have hs := M.aside.size
  refine ⟨(M.aside.below hB).set (.inl rfl) _, (M.inr.below hB).set hlo _, fun i hi => ?_⟩
  have h1 : w1.cell? ⟨b, i, none⟩ = _ := (hB.cell (p := ⟨b, i, none⟩) (by show b < _; omega)).trans (M.cells i hi).1
  refine ⟨?_, ?_⟩
  · by_cases e : i = j
    · subst e
      rw [World.cell?_setCell_same' _ _ _ (by rw [h1]; rfl), if_pos (by omega)]
    · rw [World.cell?_setCell_other _ _ _ _ (by intro h; injection h with _ h2 _; omega), h1]
      by_cases e2 : i < j
      · rw [if_pos e2, if_pos (by omega)]
      · rw [if_neg e2, if_neg (by omega)]
  · rw [World.frozen?_setCell]
    exact (hB.frozen (p := ⟨b, i, none⟩) (by show b < _; omega)).trans (M.cells i hi).2


end Go.Proofs.YtblcmnlbapbebaaDoor
