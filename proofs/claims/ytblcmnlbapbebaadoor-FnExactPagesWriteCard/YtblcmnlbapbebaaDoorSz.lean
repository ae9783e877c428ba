/- The laws' own count of what an argument holds: szStringS, szTreeS, szTree answer szStrs, szKids, szT and write nothing that was there. -/
import Derived.Test.YtblcmnlbapbebaaDoorProg
import Derived.Test.YtblcmnlbapbebaaDoorRep
namespace Go.Proofs.YtblcmnlbapbebaaDoor
open Go.RowKit

theorem szLoop_drop (l : List ByteArray) (k : Nat) (h : k < l.length) (L : Int) : szLoop (l.drop k) L = if L - l[k].size < 0 then -1 else szLoop (l.drop (k + 1)) (L - l[k].size) := by
  rw [List.drop_eq_getElem_cons h, szLoop]

theorem ret_int {k : IntKind} {a b : Int} (h : a = b) : Ending.returned (.int k a) = .returned (.int k b) := by rw [h]


/-- A tree as one value. -/
abbrev aggT (n : Nat) (t : T n) (nv kv : Value) : Value := .agg #[.bool (headT n t).1, .int .i64 (headT n t).2.1, .string (headT n t).2.2, nv, kv]


theorem szKidsLoop_drop {α : Type} (f : α → Int → Int) (l : List α) (k : Nat) (h : k < l.length) (L : Int) : szKidsLoop f (l.drop k) L = if f l[k] L < 0 then -1 else szKidsLoop f (l.drop (k + 1)) (f l[k] L) := by
  rw [List.drop_eq_getElem_cons h, szKidsLoop]

theorem szLoop_le : ∀ (l : List ByteArray) (L : Int), 0 ≤ L → szLoop l L ≤ L
  | [], L, _ => Int.le_refl L
  | s :: r, L, h => by
    rw [szLoop]
    split
    · omega
    · have := szLoop_le r (L - s.size) (by omega); omega
theorem szStrs_le (l : List ByteArray) (L : Int) (h : 0 ≤ L) : szStrs l L ≤ L := by
  rw [szStrs]
  split
  · omega
  · have := szLoop_le l (L - l.length) (by omega); omega
theorem szKidsLoop_le {α : Type} (f : α → Int → Int) (hf : ∀ t L, 0 ≤ L → f t L ≤ L) : ∀ (l : List α) (L : Int), 0 ≤ L → szKidsLoop f l L ≤ L
  | [], L, _ => Int.le_refl L
  | t :: r, L, h => by
    rw [szKidsLoop]
    split
    · omega
    · have h1 := hf t L h
      have := szKidsLoop_le f hf r (f t L) (by omega); omega
theorem szKids_le {α : Type} (f : α → Int → Int) (hf : ∀ t L, 0 ≤ L → f t L ≤ L) (l : List α) (L : Int) (h : 0 ≤ L) : szKids f l L ≤ L := by
  rw [szKids]
  split
  · omega
  · have := szKidsLoop_le f hf l (L - l.length) (by omega); omega
theorem szT_le : ∀ (n : Nat) (t : T n) (L : Int), 0 ≤ L → szT n t L ≤ L
  | 0, _, L, _ => Int.le_refl L
  | n + 1, t, L, h => by
    rw [szT]
    split
    · omega
    · rename_i h1
      have a := szStrs_le t.names (L - t.data.size) (by omega)
      split
      · omega
      · rename_i h2
        have b := szKids_le (szT n) (szT_le n) t.kids (szStrs t.names (L - t.data.size)) (by omega)
        split <;> omega


theorem strsOfRep {w : World} {lo hi n : Nat} {t : T (n + 1)} {nv kv : Value} (h : Rep w lo hi (n + 1) t nv kv) : StrsAt w lo hi nv t.names := h.2.2.1
theorem kidsOfRep {w : World} {lo hi n : Nat} {t : T (n + 1)} {nv kv : Value} (h : Rep w lo hi (n + 1) t nv kv) : KidsAt (Rep w lo hi n) (headT n) w lo hi kv t.kids := h.2.2.2

theorem KidsAt.keepB {w w' : World} {lo hi B n : Nat} {v : Value} {l : List (T n)} (h : KidsAt (Rep w lo hi n) (headT n) w lo hi v l) (hb : Below B w w') (hB : hi ≤ B) : KidsAt (Rep w' lo hi n) (headT n) w' lo hi v l :=
  h.keep (Rep.keep hb hB n) hb hB


end Go.Proofs.YtblcmnlbapbebaaDoor
