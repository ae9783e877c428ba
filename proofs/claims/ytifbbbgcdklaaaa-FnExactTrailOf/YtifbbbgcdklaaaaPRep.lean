/- How the program's own parts (files and directories behind one interface) lie in memory; and a frame that lets one block go. -/
import Derived.Test.YtifbbbgcdklaaaaParts
namespace Go.Proofs.Ytifbbbgcdklaaaa
open Go.RowKit

/-- All that was there is as it was, but for block ib. -/
structure Aside (ib : Nat) (w w' : World) : Prop where
  os : w'.os = w.os
  tape : w'.tape = w.tape
  output : w'.output = w.output
  size : w.heap.size ≤ w'.heap.size
  block : ∀ k, k < w.heap.size → k ≠ ib → w'.heap[k]? = w.heap[k]?

theorem Aside.refl (ib : Nat) (w : World) : Aside ib w w := ⟨rfl, rfl, rfl, Nat.le_refl _, fun _ _ _ => rfl⟩
theorem Aside.trans {ib : Nat} {a b c : World} (h : Aside ib a b) (k : Aside ib b c) : Aside ib a c :=
  ⟨k.os.trans h.os, k.tape.trans h.tape, k.output.trans h.output, Nat.le_trans h.size k.size, fun i hi hne => (k.block i (Nat.lt_of_lt_of_le hi h.size) hne).trans (h.block i hi hne)⟩
theorem Aside.below {ib : Nat} {a b c : World} (h : Aside ib a b) (k : Below b.heap.size b c) : Aside ib a c :=
  h.trans ⟨k.os, k.tape, k.output, k.size, fun i hi _ => k.block i hi⟩
theorem Aside.alloc {ib : Nat} {a w : World} (h : Aside ib a w) (o : Obj) : Aside ib a (w.alloc o) := h.below ((Below.refl _ _).alloc (Nat.le_refl _) o)
theorem Aside.drew {ib : Nat} {a w : World} (h : Aside ib a w) : Aside ib a w.drew := ⟨h.os, h.tape, h.output, h.size, h.block⟩
theorem Aside.drewN {ib : Nat} {a w : World} (h : Aside ib a w) (n : Nat) : Aside ib a (w.drewN n) := ⟨h.os, h.tape, h.output, h.size, h.block⟩
theorem Aside.set {ib : Nat} {a w : World} (h : Aside ib a w) {p : Addr} (hp : p.block = ib ∨ a.heap.size ≤ p.block) (u : Value) : Aside ib a (w.setCell p u) :=
  ⟨h.os, h.tape, h.output, by have := h.size; simp [World.setCell]; exact this, fun i hi hne => by rw [Below.heap_setCell _ _ _ _ (by omega)]; exact h.block i hi hne⟩
theorem Aside.grown {ib : Nat} {a w w' : World} {row : Option Nat} (h : Aside ib a w) (hg : w.grownBy w' row) (hr : ∀ k, row = some k → a.heap.size ≤ k) : Aside ib a w' :=
  ⟨hg.os.trans h.os, hg.tape.trans h.tape, hg.output.trans h.output, Nat.le_trans h.size hg.size, fun i hi hne => (hg.block i (Nat.lt_of_lt_of_le hi h.size) (fun e => by have := hr i e.symm; omega)).trans (h.block i hi hne)⟩
theorem Aside.toBelow {ib B : Nat} {w w' : World} (h : Aside ib w w') (h1 : B ≤ ib) (h2 : B ≤ w.heap.size) : Below B w w' := ⟨h.os, h.tape, h.output, h.size, fun k hk => h.block k (by omega) (by omega)⟩
theorem Aside.sameIn {ib lo hi : Nat} {w w' : World} (h : Aside ib w w') (h1 : ib < lo) (h2 : hi ≤ w.heap.size) : SameIn lo hi w w' := fun k g1 g2 => h.block k (by omega) (by omega)
theorem Blk.aside {w w' : World} {b ib : Nat} {A : Array Value} {t : TypeId} (h : Blk w b A t) (hb : Aside ib w w') (hne : b ≠ ib) : Blk w' b A t := (hb.block b h.lt hne).trans h
theorem Blk.same {w w' : World} {b lo hi : Nat} {A : Array Value} {t : TypeId} (h : Blk w b A t) (hb : SameIn lo hi w w') (h1 : lo ≤ b) (h2 : b < hi) : Blk w' b A t := (hb b h1 h2).trans h
theorem Blk.grown {w w' : World} {b : Nat} {A : Array Value} {t : TypeId} {row : Option Nat} (h : Blk w b A t) (hb : w.grownBy w' row) (hne : some b ≠ row) : Blk w' b A t := (hb.block b h.lt hne).trans h

theorem StrsAt.same {w w' : World} {lo hi : Nat} {v : Value} {l : List ByteArray} (h : StrsAt w lo hi v l) (hs : SameIn lo hi w w') : StrsAt w' lo hi v l := by
  obtain ⟨a, cap, hv, hl, hsz, hc⟩ := h
  refine ⟨a, cap, hv, hl, hsz, fun h0 => ?_⟩
  obtain ⟨b, o, ha, h1, h2, hcell⟩ := hc h0
  exact ⟨b, o, ha, h1, h2, fun i hi => by rw [hs.cell (p := ⟨b, o + i, none⟩) h1 h2]; exact hcell i hi⟩

/-- A slice of parts, one cell each. -/
def PartsAt {α : Type} (R : α → Value → Prop) (w : World) (lo hi : Nat) (v : Value) (l : List α) : Prop :=
  ∃ a cap, v = .slice a l.length cap ∧ l.length ≤ maxLen ∧ (0 < l.length → ∃ b o, a = some ⟨b, o, none⟩ ∧ lo ≤ b ∧ b < hi ∧ ∀ (i : Nat) (h : i < l.length), ∃ pv, w.cell? ⟨b, o + i, none⟩ = some pv ∧ R l[i] pv)

/-- A directory behind a pointer to block b. -/
def DRep {α : Type} (R : α → Value → Prop) (w : World) (lo hi : Nat) (t : Nd α) (b : Nat) : Prop :=
  lo ≤ b ∧ b < hi ∧ ∃ nv kv, Blk w b #[.int .i64 t.mode, nv, kv] 82 ∧ StrsAt w lo hi nv t.names ∧ PartsAt R w lo hi kv t.kids

/-- A part behind the interface. -/
def PRep (w : World) (lo hi : Nat) : (n : Nat) → T n → Value → Prop
  | 0, _, _ => False
  | n + 1, t, v => (t.dir = false ∧ ∃ b, v = .iface 86 (.pointer (some ⟨b, 0, none⟩)) ∧ lo ≤ b ∧ b < hi ∧ Blk w b #[.int .i64 t.mode, .string t.data] 88) ∨
      (t.dir = true ∧ ∃ b, v = .iface 55 (.pointer (some ⟨b, 0, none⟩)) ∧ DRep (PRep w lo hi n) w lo hi t b)

def DRepT (w : World) (lo hi : Nat) : (n : Nat) → T n → Nat → Prop
  | 0, _, _ => False
  | n + 1, t, b => DRep (PRep w lo hi n) w lo hi t b

theorem PartsAt.same {α : Type} {R R' : α → Value → Prop} {w w' : World} {lo hi : Nat} {v : Value} {l : List α} (h : PartsAt R w lo hi v l) (hR : ∀ t v, R t v → R' t v) (hs : SameIn lo hi w w') : PartsAt R' w' lo hi v l := by
  obtain ⟨a, cap, hv, hl, hc⟩ := h
  refine ⟨a, cap, hv, hl, fun h0 => ?_⟩
  obtain ⟨b, o, ha, h1, h2, hcell⟩ := hc h0
  refine ⟨b, o, ha, h1, h2, fun i hi => ?_⟩
  obtain ⟨pv, c, hr⟩ := hcell i hi
  exact ⟨pv, by rw [hs.cell (p := ⟨b, o + i, none⟩) h1 h2]; exact c, hR _ _ hr⟩
theorem DRep.same {α : Type} {R R' : α → Value → Prop} {w w' : World} {lo hi : Nat} {t : Nd α} {b : Nat} (h : DRep R w lo hi t b) (hR : ∀ t v, R t v → R' t v) (hs : SameIn lo hi w w') : DRep R' w' lo hi t b := by
  obtain ⟨h1, h2, nv, kv, h3, h4, h5⟩ := h
  exact ⟨h1, h2, nv, kv, h3.same hs h1 h2, h4.same hs, h5.same hR hs⟩
theorem PRep.same {w w' : World} {lo hi : Nat} (hs : SameIn lo hi w w') : ∀ (n : Nat) (t : T n) (v : Value), PRep w lo hi n t v → PRep w' lo hi n t v
  | 0, _, _, h => h
  | _ + 1, _, _, .inl ⟨h0, b, h1, h2, h3, h4⟩ => .inl ⟨h0, b, h1, h2, h3, h4.same hs h2 h3⟩
  | n + 1, _, _, .inr ⟨h0, b, h1, h2⟩ => .inr ⟨h0, b, h1, h2.same (PRep.same hs n) hs⟩
theorem DRepT.same {w w' : World} {lo hi : Nat} (hs : SameIn lo hi w w') : ∀ (n : Nat) (t : T n) (b : Nat), DRepT w lo hi n t b → DRepT w' lo hi n t b
  | 0, _, _, h => h
  | n + 1, _, _, h => DRep.same h (PRep.same hs n) hs

theorem PartsAt.wide {α : Type} {R R' : α → Value → Prop} {w : World} {lo hi lo' hi' : Nat} {v : Value} {l : List α} (h : PartsAt R w lo hi v l) (hR : ∀ t v, R t v → R' t v) (g1 : lo' ≤ lo) (g2 : hi ≤ hi') : PartsAt R' w lo' hi' v l := by
  obtain ⟨a, cap, hv, hl, hc⟩ := h
  refine ⟨a, cap, hv, hl, fun h0 => ?_⟩
  obtain ⟨b, o, ha, h1, h2, hcell⟩ := hc h0
  refine ⟨b, o, ha, by omega, by omega, fun i hi => ?_⟩
  obtain ⟨pv, c, hr⟩ := hcell i hi
  exact ⟨pv, c, hR _ _ hr⟩
theorem DRep.wide {α : Type} {R R' : α → Value → Prop} {w : World} {lo hi lo' hi' : Nat} {t : Nd α} {b : Nat} (h : DRep R w lo hi t b) (hR : ∀ t v, R t v → R' t v) (g1 : lo' ≤ lo) (g2 : hi ≤ hi') : DRep R' w lo' hi' t b := by
  obtain ⟨h1, h2, nv, kv, h3, h4, h5⟩ := h
  exact ⟨by omega, by omega, nv, kv, h3, h4.wide g1 g2, h5.wide hR g1 g2⟩
theorem PRep.wide {w : World} {lo hi lo' hi' : Nat} (g1 : lo' ≤ lo) (g2 : hi ≤ hi') : ∀ (n : Nat) (t : T n) (v : Value), PRep w lo hi n t v → PRep w lo' hi' n t v
  | 0, _, _, h => h
  | _ + 1, _, _, .inl ⟨h0, b, h1, h2, h3, h4⟩ => .inl ⟨h0, b, h1, by omega, by omega, h4⟩
  | n + 1, _, _, .inr ⟨h0, b, h1, h2⟩ => .inr ⟨h0, b, h1, h2.wide (PRep.wide g1 g2 n) g1 g2⟩

theorem PRep.form {w : World} {lo hi : Nat} : ∀ {n : Nat} {t : T n} {v : Value}, PRep w lo hi n t v → ∃ u b, v = .iface u (.pointer (some ⟨b, 0, none⟩))
  | 0, _, _, h => h.elim
  | _ + 1, _, _, .inl ⟨_, b, h1, _⟩ => ⟨_, b, h1⟩
  | _ + 1, _, _, .inr ⟨_, b, h1, _⟩ => ⟨_, b, h1⟩

end Go.Proofs.Ytifbbbgcdklaaaa
