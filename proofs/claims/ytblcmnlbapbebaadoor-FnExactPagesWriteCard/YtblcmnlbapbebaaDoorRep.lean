/- How a tree lies in memory: a family of plain types (a tree of depth below n), what its cells hold, and that it stays so where nothing below a block number turns. -/
import Derived.WalkKit
import Derived.WalkSpells
import Derived.WalkLawsBesides
namespace Go.Proofs.YtblcmnlbapbebaaDoor
open Go.RowKit

/-- One part of a tree, its kids of a type of their own. -/
structure Nd (α : Type) where
  dir : Bool
  mode : Int
  data : ByteArray
  names : List ByteArray
  kids : List α

/-- Trees of fewer than n storeys. -/
def T : Nat → Type
  | 0 => Empty
  | n + 1 => Nd (T n)

/-- The value is a slice of these strings, their cells in blocks from lo on and below hi. -/
def StrsAt (w : World) (lo hi : Nat) (v : Value) (l : List ByteArray) : Prop :=
  ∃ a cap, v = .slice a l.length cap ∧ l.length ≤ maxLen ∧ (∀ (i : Nat) (h : i < l.length), l[i].size ≤ maxLen) ∧
    (0 < l.length → ∃ b o, a = some ⟨b, o, none⟩ ∧ lo ≤ b ∧ b < hi ∧ ∀ (i : Nat) (h : i < l.length), w.cell? ⟨b, o + i, none⟩ = some (.string l[i]))

/-- The value is a slice of these parts, five cells each. -/
def KidsAt {α : Type} (R : α → Value → Value → Prop) (f : α → Bool × Int × ByteArray) (w : World) (lo hi : Nat) (v : Value) (l : List α) : Prop :=
  ∃ a cap, v = .slice a l.length cap ∧ l.length ≤ maxLen ∧
    (0 < l.length → ∃ b o, a = some ⟨b, o, none⟩ ∧ lo ≤ b ∧ b < hi ∧ ∀ (i : Nat) (h : i < l.length), ∃ nv kv,
      w.cell? ⟨b, o + i * 5, none⟩ = some (.bool (f l[i]).1) ∧ w.cell? ⟨b, o + i * 5 + 1, none⟩ = some (.int .i64 (f l[i]).2.1) ∧
      w.cell? ⟨b, o + i * 5 + 2, none⟩ = some (.string (f l[i]).2.2) ∧ w.cell? ⟨b, o + i * 5 + 3, none⟩ = some nv ∧ w.cell? ⟨b, o + i * 5 + 4, none⟩ = some kv ∧ R l[i] nv kv)

/-- The first three cells of a part. -/
def headT : (n : Nat) → T n → Bool × Int × ByteArray
  | 0, _ => (false, 0, ByteArray.empty)
  | _ + 1, t => (t.dir, t.mode, t.data)

/-- The tree's two slices (its names, its kids), and all below. -/
def Rep (w : World) (lo hi : Nat) : (n : Nat) → T n → Value → Value → Prop
  | 0, _, _, _ => False
  | n + 1, t, nv, kv => t.data.size ≤ maxLen ∧ (Lit.int .i64 t.mode).wf = true ∧ StrsAt w lo hi nv t.names ∧ KidsAt (Rep w lo hi n) (headT n) w lo hi kv t.kids

theorem StrsAt.keep {w w' : World} {lo hi B : Nat} {v : Value} {l : List ByteArray} (h : StrsAt w lo hi v l) (hb : Below B w w') (hB : hi ≤ B) : StrsAt w' lo hi v l := by
  obtain ⟨a, cap, hv, hl, hs, hc⟩ := h
  refine ⟨a, cap, hv, hl, hs, fun h0 => ?_⟩
  obtain ⟨b, o, ha, h1, h2, hcell⟩ := hc h0
  exact ⟨b, o, ha, h1, h2, fun i hi => by rw [hb.cell (p := ⟨b, o + i, none⟩) (by show b < B; omega)]; exact hcell i hi⟩

theorem KidsAt.keep {α : Type} {R R' : α → Value → Value → Prop} {f : α → Bool × Int × ByteArray} {w w' : World} {lo hi B : Nat} {v : Value} {l : List α} (h : KidsAt R f w lo hi v l)
    (hR : ∀ t nv kv, R t nv kv → R' t nv kv) (hb : Below B w w') (hB : hi ≤ B) : KidsAt R' f w' lo hi v l := by
  obtain ⟨a, cap, hv, hl, hc⟩ := h
  refine ⟨a, cap, hv, hl, fun h0 => ?_⟩
  obtain ⟨b, o, ha, h1, h2, hcell⟩ := hc h0
  refine ⟨b, o, ha, h1, h2, fun i hi => ?_⟩
  obtain ⟨nv, kv, c0, c1, c2, c3, c4, hr⟩ := hcell i hi
  exact ⟨nv, kv, by rw [hb.cell (p := ⟨b, o + i * 5, none⟩) (by show b < B; omega)]; exact c0, by rw [hb.cell (p := ⟨b, o + i * 5 + 1, none⟩) (by show b < B; omega)]; exact c1,
    by rw [hb.cell (p := ⟨b, o + i * 5 + 2, none⟩) (by show b < B; omega)]; exact c2, by rw [hb.cell (p := ⟨b, o + i * 5 + 3, none⟩) (by show b < B; omega)]; exact c3,
    by rw [hb.cell (p := ⟨b, o + i * 5 + 4, none⟩) (by show b < B; omega)]; exact c4, hR _ _ _ hr⟩

theorem Rep.keep {w w' : World} {lo hi B : Nat} (hb : Below B w w') (hB : hi ≤ B) : ∀ (n : Nat) (t : T n) (nv kv : Value), Rep w lo hi n t nv kv → Rep w' lo hi n t nv kv
  | 0, _, _, _, h => h
  | n + 1, _, _, _, ⟨h0, h1, h2, h3⟩ => ⟨h0, h1, h2.keep hb hB, h3.keep (Rep.keep hb hB n) hb hB⟩

theorem StrsAt.wide {w : World} {lo hi lo' hi' : Nat} {v : Value} {l : List ByteArray} (h : StrsAt w lo hi v l) (h1 : lo' ≤ lo) (h2 : hi ≤ hi') : StrsAt w lo' hi' v l := by
  obtain ⟨a, cap, hv, hl, hs, hc⟩ := h
  refine ⟨a, cap, hv, hl, hs, fun h0 => ?_⟩
  obtain ⟨b, o, ha, g1, g2, hcell⟩ := hc h0
  exact ⟨b, o, ha, by omega, by omega, hcell⟩

theorem KidsAt.wide {α : Type} {R R' : α → Value → Value → Prop} {f : α → Bool × Int × ByteArray} {w : World} {lo hi lo' hi' : Nat} {v : Value} {l : List α} (h : KidsAt R f w lo hi v l)
    (hR : ∀ t nv kv, R t nv kv → R' t nv kv) (h1 : lo' ≤ lo) (h2 : hi ≤ hi') : KidsAt R' f w lo' hi' v l := by
  obtain ⟨a, cap, hv, hl, hc⟩ := h
  refine ⟨a, cap, hv, hl, fun h0 => ?_⟩
  obtain ⟨b, o, ha, g1, g2, hcell⟩ := hc h0
  refine ⟨b, o, ha, by omega, by omega, fun i hi => ?_⟩
  obtain ⟨nv, kv, c0, c1, c2, c3, c4, hr⟩ := hcell i hi
  exact ⟨nv, kv, c0, c1, c2, c3, c4, hR _ _ _ hr⟩

theorem Rep.wide {w : World} {lo hi lo' hi' : Nat} (h1 : lo' ≤ lo) (h2 : hi ≤ hi') : ∀ (n : Nat) (t : T n) (nv kv : Value), Rep w lo hi n t nv kv → Rep w lo' hi' n t nv kv
  | 0, _, _, _, h => h
  | n + 1, _, _, _, ⟨g0, g1, g2, g3⟩ => ⟨g0, g1, g2.wide h1 h2, g3.wide (Rep.wide h1 h2 n) h1 h2⟩

/-! ### A block that is just these cells -/
def Blk (w : World) (b : Nat) (A : Array Value) (t : TypeId) : Prop := w.heap[b]? = some (.cells A t (0, 0))
theorem Blk.lt {w : World} {b : Nat} {A : Array Value} {t : TypeId} (h : Blk w b A t) : b < w.heap.size := by
  obtain ⟨hlt, _⟩ := Array.getElem?_eq_some_iff.1 h
  exact hlt
theorem Blk.cell {w : World} {b : Nat} {A : Array Value} {t : TypeId} (h : Blk w b A t) (j : Nat) (v : Value) (hv : A[j]? = some v) : w.cell? ⟨b, j, none⟩ = some v := by
  unfold Blk at h
  simp [World.cell?, h, hv]
theorem Blk.frozen {w : World} {b : Nat} {A : Array Value} {t : TypeId} (h : Blk w b A t) (j : Nat) : w.frozen? ⟨b, j, none⟩ = false := by
  unfold Blk at h
  simp [World.frozen?, h]
theorem Blk.new (w : World) (A : Array Value) (t : TypeId) : Blk (w.alloc (.cells A t)) w.heap.size A t := heap_alloc_new w _
theorem Blk.alloc {w : World} {b : Nat} {A : Array Value} {t : TypeId} (h : Blk w b A t) (o : Obj) : Blk (w.alloc o) b A t := by
  unfold Blk
  rw [Below.heap_alloc _ _ _ h.lt]
  exact h
theorem Blk.below {w w' : World} {b B : Nat} {A : Array Value} {t : TypeId} (h : Blk w b A t) (hb : Below B w w') (hB : b < B) : Blk w' b A t := (hb.block b hB).trans h
theorem Blk.other {w : World} {b : Nat} {A : Array Value} {t : TypeId} (h : Blk w b A t) (p : Addr) (v : Value) (hp : b ≠ p.block) : Blk (w.setCell p v) b A t := by
  unfold Blk
  rw [Below.heap_setCell _ _ _ _ hp]
  exact h
theorem Blk.set {w : World} {b : Nat} {A : Array Value} {t : TypeId} (h : Blk w b A t) (j : Nat) (v : Value) : Blk (w.setCell ⟨b, j, none⟩ v) b (A.setIfInBounds j v) t := heap_setCell_same w b j A t v h

/-! ### Memory of one's own -/
/-- All blocks from lo on and below hi are as they were. -/
def SameIn (lo hi : Nat) (w w' : World) : Prop := ∀ k, lo ≤ k → k < hi → w'.heap[k]? = w.heap[k]?

theorem SameIn.cell {lo hi : Nat} {w w' : World} (h : SameIn lo hi w w') {p : Addr} (h1 : lo ≤ p.block) (h2 : p.block < hi) : w'.cell? p = w.cell? p := World.cell?_of_block (w := w) (h p.block h1 h2)
theorem SameIn.frozen {lo hi : Nat} {w w' : World} (h : SameIn lo hi w w') {p : Addr} (h1 : lo ≤ p.block) (h2 : p.block < hi) : w'.frozen? p = w.frozen? p := World.frozen?_of_block (w := w) (h p.block h1 h2)
theorem sameIn_below {B lo hi : Nat} {w w' : World} (h : Below B w w') (hB : hi ≤ B) : SameIn lo hi w w' := fun k _ h2 => h.block k (by omega)
theorem SameIn.sub {lo hi lo' hi' : Nat} {w w' : World} (h : SameIn lo hi w w') (h1 : lo ≤ lo') (h2 : hi' ≤ hi) : SameIn lo' hi' w w' := fun k g1 g2 => h k (by omega) (by omega)
theorem SameIn.trans {lo hi : Nat} {w w' w'' : World} (h : SameIn lo hi w w') (h2 : SameIn lo hi w' w'') : SameIn lo hi w w'' := fun k g1 g2 => (h2 k g1 g2).trans (h k g1 g2)

/-- A slice of these strings in block b, from its beginning on, that may be written. -/
def OwnStrs (w : World) (lo hi b : Nat) (v : Value) (l : List ByteArray) : Prop :=
  (∃ a cap, v = .slice a l.length cap ∧ (0 < l.length → a = some ⟨b, 0, none⟩)) ∧ l.length ≤ maxLen ∧ (∀ (i : Nat) (h : i < l.length), l[i].size ≤ maxLen) ∧ (0 < l.length → lo ≤ b ∧ b < hi) ∧
    ∀ (i : Nat) (h : i < l.length), w.cell? ⟨b, i, none⟩ = some (.string l[i]) ∧ w.frozen? ⟨b, i, none⟩ = false

/-- A slice of parts in block b, five cells each; the i-th with all below lies in the blocks from s i on and below e i. -/
def OwnKids {α : Type} (R : Nat → Nat → α → Value → Value → Prop) (f : α → Bool × Int × ByteArray) (w : World) (lo hi b : Nat) (s e : Nat → Nat) (v : Value) (l : List α) : Prop :=
  (∃ a cap, v = .slice a l.length cap ∧ (0 < l.length → a = some ⟨b, 0, none⟩)) ∧ l.length ≤ maxLen ∧ (0 < l.length → lo ≤ b ∧ b < hi) ∧
    (∀ i, i < l.length → lo ≤ s i ∧ s i ≤ e i ∧ e i ≤ hi ∧ (i + 1 < l.length → e i ≤ s (i + 1)) ∧ ¬ (s i ≤ b ∧ b < e i)) ∧
    ∀ (i : Nat) (h : i < l.length), ∃ nv kv,
      w.cell? ⟨b, i * 5, none⟩ = some (.bool (f l[i]).1) ∧ w.cell? ⟨b, i * 5 + 1, none⟩ = some (.int .i64 (f l[i]).2.1) ∧
      w.cell? ⟨b, i * 5 + 2, none⟩ = some (.string (f l[i]).2.2) ∧ w.cell? ⟨b, i * 5 + 3, none⟩ = some nv ∧ w.cell? ⟨b, i * 5 + 4, none⟩ = some kv ∧
      (∀ j, j < 5 → w.frozen? ⟨b, i * 5 + j, none⟩ = false) ∧ R (s i) (e i) l[i] nv kv

/-- The tree lies in memory of its own, from block lo on and below hi: no two of its slices share a block. -/
def Own (w : World) : (n : Nat) → Nat → Nat → T n → Value → Value → Prop
  | 0, _, _, _, _, _ => False
  | n + 1, lo, hi, t, nv, kv => t.data.size ≤ maxLen ∧ (Lit.int .i64 t.mode).wf = true ∧ ∃ bn bk s e, OwnStrs w lo hi bn nv t.names ∧ OwnKids (Own w n) (headT n) w lo hi bk s e kv t.kids ∧ bn ≠ bk ∧
      ∀ i, i < t.kids.length → ¬ (s i ≤ bn ∧ bn < e i)

theorem OwnStrs.same {w w' : World} {lo hi b : Nat} {v : Value} {l : List ByteArray} (h : OwnStrs w lo hi b v l) (hs : SameIn lo hi w w') : OwnStrs w' lo hi b v l := by
  obtain ⟨h1, h2, h3, h4, h5⟩ := h
  refine ⟨h1, h2, h3, h4, fun i hi => ?_⟩
  have hb := h4 (by omega)
  rw [hs.cell (p := ⟨b, i, none⟩) hb.1 hb.2, hs.frozen (p := ⟨b, i, none⟩) hb.1 hb.2]
  exact h5 i hi

theorem OwnKids.same {α : Type} {R R' : Nat → Nat → α → Value → Value → Prop} {f : α → Bool × Int × ByteArray} {w w' : World} {lo hi b : Nat} {s e : Nat → Nat} {v : Value} {l : List α} (h : OwnKids R f w lo hi b s e v l)
    (hs : SameIn lo hi w w') (hR : ∀ i, i < l.length → ∀ t nv kv, R (s i) (e i) t nv kv → R' (s i) (e i) t nv kv) : OwnKids R' f w' lo hi b s e v l := by
  obtain ⟨h1, h2, h3, h4, h5⟩ := h
  refine ⟨h1, h2, h3, h4, fun i hi => ?_⟩
  have hb := h3 (by omega)
  obtain ⟨nv, kv, c0, c1, c2, c3, c4, hf, hr⟩ := h5 i hi
  refine ⟨nv, kv, ?_, ?_, ?_, ?_, ?_, fun j hj => ?_, hR i hi _ _ _ hr⟩
  · rw [hs.cell (p := ⟨b, i * 5, none⟩) hb.1 hb.2]; exact c0
  · rw [hs.cell (p := ⟨b, i * 5 + 1, none⟩) hb.1 hb.2]; exact c1
  · rw [hs.cell (p := ⟨b, i * 5 + 2, none⟩) hb.1 hb.2]; exact c2
  · rw [hs.cell (p := ⟨b, i * 5 + 3, none⟩) hb.1 hb.2]; exact c3
  · rw [hs.cell (p := ⟨b, i * 5 + 4, none⟩) hb.1 hb.2]; exact c4
  · rw [hs.frozen (p := ⟨b, i * 5 + j, none⟩) hb.1 hb.2]; exact hf j hj

theorem Own.same {w w' : World} : ∀ (n lo hi : Nat) (t : T n) (nv kv : Value), SameIn lo hi w w' → Own w n lo hi t nv kv → Own w' n lo hi t nv kv
  | 0, _, _, _, _, _, _, h => h
  | n + 1, lo, hi, t, _, _, hs, ⟨h0, h1, bn, bk, s, e, h2, h3, h4, h5⟩ =>
    ⟨h0, h1, bn, bk, s, e, h2.same hs, h3.same hs fun i hi t' nv' kv' hr => by
      have := h3.2.2.2.1 i hi
      exact Own.same n _ _ t' nv' kv' (hs.sub this.1 this.2.2.1) hr, h4, h5⟩

theorem OwnStrs.strs {w : World} {lo hi b : Nat} {v : Value} {l : List ByteArray} (h : OwnStrs w lo hi b v l) : StrsAt w lo hi v l := by
  obtain ⟨⟨a, cap, hv, ha⟩, h2, h3, h4, h5⟩ := h
  refine ⟨a, cap, hv, h2, h3, fun h0 => ⟨b, 0, ha h0, (h4 h0).1, (h4 h0).2, fun i hi => ?_⟩⟩
  rw [Nat.zero_add]
  exact (h5 i hi).1

theorem OwnKids.kids {α : Type} {R : Nat → Nat → α → Value → Value → Prop} {R' : α → Value → Value → Prop} {f : α → Bool × Int × ByteArray} {w : World} {lo hi b : Nat} {s e : Nat → Nat} {v : Value} {l : List α} (h : OwnKids R f w lo hi b s e v l)
    (hR : ∀ i, i < l.length → ∀ t nv kv, R (s i) (e i) t nv kv → R' t nv kv) : KidsAt R' f w lo hi v l := by
  obtain ⟨⟨a, cap, hv, ha⟩, h2, h3, h4, h5⟩ := h
  refine ⟨a, cap, hv, h2, fun h0 => ⟨b, 0, ha h0, (h3 h0).1, (h3 h0).2, fun i hi => ?_⟩⟩
  obtain ⟨nv, kv, c0, c1, c2, c3, c4, _, hr⟩ := h5 i hi
  simp only [Nat.zero_add]
  exact ⟨nv, kv, c0, c1, c2, c3, c4, hR i hi _ _ _ hr⟩

theorem Own.rep {w : World} : ∀ (n lo hi : Nat) (t : T n) (nv kv : Value), Own w n lo hi t nv kv → Rep w lo hi n t nv kv
  | 0, _, _, _, _, _, h => h
  | n + 1, _, _, _, _, _, ⟨h0, h1, _, _, _, _, h2, h3, _, _⟩ => ⟨h0, h1, h2.strs, h3.kids fun i hi t' nv' kv' hr => by
      have := h3.2.2.2.1 i hi
      exact Rep.wide this.1 this.2.2.1 n t' nv' kv' (Own.rep n _ _ t' nv' kv' hr)⟩

theorem Rep.slices {w : World} {lo hi : Nat} : ∀ {n : Nat} {t : T n} {nv kv : Value}, Rep w lo hi n t nv kv → ∃ a m c a' m' c', nv = .slice a m c ∧ kv = .slice a' m' c'
  | 0, _, _, _, h => h.elim
  | _ + 1, _, _, _, ⟨_, _, ⟨a, c, h1, _⟩, ⟨a', c', h2, _⟩⟩ => ⟨a, _, c, a', _, c', h1, h2⟩

/-! ### The laws' count of what a tree holds -/
def szLoop : List ByteArray → Int → Int
  | [], left => left
  | s :: r, left => if left - s.size < 0 then -1 else szLoop r (left - s.size)
def szStrs (l : List ByteArray) (left : Int) : Int := if left - l.length < 0 then -1 else szLoop l (left - l.length)
def szKidsLoop {α : Type} (f : α → Int → Int) : List α → Int → Int
  | [], left => left
  | t :: r, left => if f t left < 0 then -1 else szKidsLoop f r (f t left)
def szKids {α : Type} (f : α → Int → Int) (l : List α) (left : Int) : Int := if left - l.length < 0 then -1 else szKidsLoop f l (left - l.length)
def szT : (n : Nat) → T n → Int → Int
  | 0, _, left => left
  | n + 1, t, left =>
    if left - t.data.size < 0 then -1 else
    if szStrs t.names (left - t.data.size) < 0 then -1 else
    if szKids (szT n) t.kids (szStrs t.names (left - t.data.size)) < 0 then -1 else szKids (szT n) t.kids (szStrs t.names (left - t.data.size))

end Go.Proofs.YtblcmnlbapbebaaDoor
