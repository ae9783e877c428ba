/- The laws' own copies: toStringS, toTreeS, toTree make the same list or tree anew, in memory of its own, and write nothing that was there. -/
import Derived.Test.YtblcmnlbapbebaaDoorProg
import Derived.Test.YtblcmnlbapbebaaDoorSz
import Derived.Deep.OwnRows
namespace Go.Proofs.YtblcmnlbapbebaaDoor
open Go.RowKit

theorem info_string : (Tryd.prog.info? 9).map (fun i => (i.zero, i.size, i.bytes)) = some (some (.string ⟨#[]⟩), 1, 16) := by kernel_rfl

/-- The row behind k rounds: the first k strings, the others empty. -/
def strRow (l : List ByteArray) (k : Nat) : Nat → Value := fun j => if h : j < k ∧ j < l.length then .string (l[j]'h.2) else .string ⟨#[]⟩

theorem strRow_set (l : List ByteArray) (k : Nat) (hk : k < l.length) (j : Nat) : (if j = k then .string l[k] else strRow l k j) = strRow l (k + 1) j := by
  unfold strRow
  by_cases h : j = k
  · subst h; simp [hk]
  · rw [if_neg h]
    by_cases h2 : j < k ∧ j < l.length
    · rw [dif_pos h2, dif_pos (by omega)]
    · rw [dif_neg h2, dif_neg (by omega)]

theorem strRow_at (l : List ByteArray) (k : Nat) (hk : ¬ k < l.length) (j : Nat) (hj : j < l.length) : strRow l k j = .string l[j] := by
  unfold strRow
  rw [dif_pos (by omega)]


/-- No list of the tree has more than 2^20 elements. -/
def Sm : (n : Nat) → T n → Prop
  | 0, _ => True
  | n + 1, t => t.names.length ≤ 1048576 ∧ t.kids.length ≤ 1048576 ∧ ∀ (i : Nat) (h : i < t.kids.length), Sm n t.kids[i]

def zeroCells : Array Value := #[.bool false, .int .i64 0, .string ⟨#[]⟩, .slice none 0 0, .slice none 0 0]

/-- 'make([]T, n)', an element of five cells. -/
theorem run_make_five {P : Program} (t e : TypeId) (z : Array Value) (bytes : Nat) (ht : P.underlying t = some (.slice e)) (hinfo : (P.info? e).map (fun i => (i.zero, i.size, i.bytes)) = some (some (.agg z), 5, bytes))
    (kl kc : IntKind) (n : Nat) (hbytes : bytes * n ≤ 281474976710656) (h63 : n ≤ 9223372036854775807) (w : World) :
    (Instr.makeSlice t (.int kl (n : Int)) (.int kc (n : Int))).run P w = .ok (.slice (some ⟨w.heap.size, 0, none⟩) n n) (w.alloc (.cells (madeCells z (n * 5)) e)) := by
  obtain ⟨i, hi, hzz⟩ := Option.map_eq_some_iff.1 hinfo
  simp only [Prod.mk.injEq] at hzz
  obtain ⟨hz, hs, hb⟩ := hzz
  have hb' : (i.bytes : Int) * (n : Int) ≤ 281474976710656 := by
    rw [hb]
    have h : ((bytes * n : Nat) : Int) ≤ 281474976710656 := by omega
    rwa [Int.natCast_mul] at h
  have hr := run_make (P := P) w t e i (.agg z) ht hi hz kl kc n n (by omega) (Int.le_refl _) hb' (by omega)
  simp only [Int.toNat_natCast, hs] at hr
  exact hr

theorem rowIs_made_any (w : World) (z : Array Value) (n : Nat) (t : TypeId) : (w.alloc (.cells (madeCells z n) t)).rowIs w.heap.size t n (fun i => z[i % z.size]!) :=
  ⟨_, Go.Deep.blk_alloc_new _ _, size_madeCells _ _, fun i hi => by simp [madeCells, hi]⟩


/-- Five cells of a block written, one behind the other. -/
abbrev set5 (w : World) (g o : Nat) (v0 v1 v2 v3 v4 : Value) : World :=
  ((((w.setCell ⟨g, o, none⟩ v0).setCell ⟨g, o + 1, none⟩ v1).setCell ⟨g, o + 2, none⟩ v2).setCell ⟨g, o + 3, none⟩ v3).setCell ⟨g, o + 4, none⟩ v4

theorem set5_row {w : World} {g : Nat} {t : TypeId} {n : Nat} {f : Nat → Value} (h : w.rowIs g t n f) (o : Nat) (v0 v1 v2 v3 v4 : Value) :
    (set5 w g o v0 v1 v2 v3 v4).rowIs g t n (fun j => if j = o + 4 then v4 else if j = o + 3 then v3 else if j = o + 2 then v2 else if j = o + 1 then v1 else if j = o then v0 else f j) :=
  ((((h.set o v0).set (o + 1) v1).set (o + 2) v2).set (o + 3) v3).set (o + 4) v4

theorem set5_other (w : World) (g o : Nat) (v0 v1 v2 v3 v4 : Value) (k : Nat) (hk : k ≠ g) : (set5 w g o v0 v1 v2 v3 v4).heap[k]? = w.heap[k]? := by
  unfold set5
  rw [Below.heap_setCell _ _ _ _ hk, Below.heap_setCell _ _ _ _ hk, Below.heap_setCell _ _ _ _ hk, Below.heap_setCell _ _ _ _ hk, Below.heap_setCell _ _ _ _ hk]

theorem set5_size (w : World) (g o : Nat) (v0 v1 v2 v3 v4 : Value) : (set5 w g o v0 v1 v2 v3 v4).heap.size = w.heap.size := by
  simp [set5, World.setCell]

theorem set5_below {B : Nat} {w0 w : World} (h : Below B w0 w) {g : Nat} (hg : B ≤ g) (o : Nat) (v0 v1 v2 v3 v4 : Value) : Below B w0 (set5 w g o v0 v1 v2 v3 v4) :=
  ((((h.setCell (p := ⟨g, o, none⟩) hg v0).setCell (p := ⟨g, o + 1, none⟩) hg v1).setCell (p := ⟨g, o + 2, none⟩) hg v2).setCell (p := ⟨g, o + 3, none⟩) hg v3).setCell (p := ⟨g, o + 4, none⟩) hg v4


end Go.Proofs.YtblcmnlbapbebaaDoor
