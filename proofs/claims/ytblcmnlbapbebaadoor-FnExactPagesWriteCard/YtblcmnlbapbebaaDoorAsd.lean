/- A frame that lets one block go. -/
import Derived.Test.YtblcmnlbapbebaaDoorLow
namespace Go.Proofs.YtblcmnlbapbebaaDoor
open Go.RowKit

theorem sum_drop {α : Type} (f : α → Nat) (l : List α) (k : Nat) (h : k < l.length) : ((l.take (k + 1)).map f).sum = ((l.take k).map f).sum + f l[k] := by
  rw [List.take_succ_eq_append_getElem h, List.map_append, List.sum_append]; simp

theorem sum_take_le {α : Type} (f : α → Nat) (l : List α) (k : Nat) : ((l.take k).map f).sum ≤ (l.map f).sum := by
  have : (l.map f).sum = ((l.take k).map f).sum + ((l.drop k).map f).sum := by rw [← List.sum_append, ← List.map_append, List.take_append_drop]
  omega


theorem mod3 (k : Nat) : ((k : Int) % 3 == 0) = (k % 3 == 0) := by
  rw [Bool.eq_iff_iff]
  simp
  omega

/-- All that was there is as it was, but for block ib. -/
structure Aside (ib : Nat) (w w' : World) : Prop where
  os : w'.os = w.os
  tape : w'.tape = w.tape
  output : w'.output = w.output
  size : w.heap.size ≤ w'.heap.size
  block : ∀ k, k < w.heap.size → k ≠ ib → w'.heap[k]? = w.heap[k]?

theorem Aside.refl (ib : Nat) (w : World) : Aside ib w w := ⟨rfl, rfl, rfl, Nat.le_refl _, fun _ _ _ => rfl⟩
theorem Aside.trans {ib : Nat} {a b c : World} (h : Aside ib a b) (k : Aside ib b c) : Aside ib a c :=
  ⟨k.os.trans h.os, k.tape.trans h.tape, k.output.trans h.output, Nat.le_trans h.size k.size, fun i hi hne => (k.block i (Nat.lt_of_lt_of_le hi h.size) hne).trans (h.block i hi hne)⟩
theorem Aside.below {ib : Nat} {a b c : World} (h : Aside ib a b) (k : Below b.heap.size b c) : Aside ib a c :=
  h.trans ⟨k.os, k.tape, k.output, k.size, fun i hi _ => k.block i hi⟩
theorem Aside.alloc {ib : Nat} {a w : World} (h : Aside ib a w) (o : Obj) : Aside ib a (w.alloc o) := h.below ((Below.refl _ _).alloc (Nat.le_refl _) o)
theorem Aside.drew {ib : Nat} {a w : World} (h : Aside ib a w) : Aside ib a w.drew := ⟨h.os, h.tape, h.output, h.size, h.block⟩
theorem Aside.drewN {ib : Nat} {a w : World} (h : Aside ib a w) (n : Nat) : Aside ib a (w.drewN n) := ⟨h.os, h.tape, h.output, h.size, h.block⟩
theorem Aside.set {ib : Nat} {a w : World} (h : Aside ib a w) {p : Addr} (hp : p.block = ib ∨ a.heap.size ≤ p.block) (u : Value) : Aside ib a (w.setCell p u) :=
  ⟨h.os, h.tape, h.output, by have := h.size; simp [World.setCell]; exact this, fun i hi hne => by rw [Below.heap_setCell _ _ _ _ (by omega)]; exact h.block i hi hne⟩
theorem Aside.grown {ib : Nat} {a w w' : World} {row : Option Nat} (h : Aside ib a w) (hg : w.grownBy w' row) (hr : ∀ k, row = some k → a.heap.size ≤ k) : Aside ib a w' :=
  ⟨hg.os.trans h.os, hg.tape.trans h.tape, hg.output.trans h.output, Nat.le_trans h.size hg.size, fun i hi hne => (hg.block i (Nat.lt_of_lt_of_le hi h.size) (fun e => by have := hr i e.symm; omega)).trans (h.block i hi hne)⟩
theorem Aside.toBelow {ib B : Nat} {w w' : World} (h : Aside ib w w') (h1 : B ≤ ib) (h2 : B ≤ w.heap.size) : Below B w w' := ⟨h.os, h.tape, h.output, h.size, fun k hk => h.block k (by omega) (by omega)⟩
theorem Aside.sameIn {ib lo hi : Nat} {w w' : World} (h : Aside ib w w') (h1 : ib < lo) (h2 : hi ≤ w.heap.size) : SameIn lo hi w w' := fun k g1 g2 => h.block k (by omega) (by omega)
theorem Blk.aside {w w' : World} {b ib : Nat} {A : Array Value} {t : TypeId} (h : Blk w b A t) (hb : Aside ib w w') (hne : b ≠ ib) : Blk w' b A t := (hb.block b h.lt hne).trans h
theorem Blk.same {w w' : World} {b lo hi : Nat} {A : Array Value} {t : TypeId} (h : Blk w b A t) (hb : SameIn lo hi w w') (h1 : lo ≤ b) (h2 : b < hi) : Blk w' b A t := (hb b h1 h2).trans h
theorem Blk.grown {w w' : World} {b : Nat} {A : Array Value} {t : TypeId} {row : Option Nat} (h : Blk w b A t) (hb : w.grownBy w' row) (hne : some b ≠ row) : Blk w' b A t := (hb.block b h.lt hne).trans h

theorem StrsAt.same {w w' : World} {lo hi : Nat} {v : Value} {l : List ByteArray} (h : StrsAt w lo hi v l) (hs : SameIn lo hi w w') : StrsAt w' lo hi v l := by
  obtain ⟨a, cap, hv, hl, hsz, hc⟩ := h
  refine ⟨a, cap, hv, hl, hsz, fun h0 => ?_⟩
  obtain ⟨b, o, ha, h1, h2, hcell⟩ := hc h0
  exact ⟨b, o, ha, h1, h2, fun i hi => by rw [hs.cell (p := ⟨b, o + i, none⟩) h1 h2]; exact hcell i hi⟩

end Go.Proofs.YtblcmnlbapbebaaDoor
