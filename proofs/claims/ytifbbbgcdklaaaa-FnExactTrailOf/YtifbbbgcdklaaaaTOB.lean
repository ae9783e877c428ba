/- For TrailOf: the marks that a call makes; lists of one or two marks; the boxes of both functions. -/
import Derived.Test.YtifbbbgcdklaaaaMks
import Derived.Test.YtifbbbgcdklaaaaBox
import Derived.Test.YtifbbbgcdklaaaaAtInd
import Derived.Test.YtifbbbgcdklaaaaOwnR
import Derived.Test.YtifbbbgcdklaaaaDir
import Derived.Deep.AppendLies
import Derived.Deep.RegionLaw
import Derived.Laws.Rows
namespace Go.Proofs.Ytifbbbgcdklaaaa
open Go.RowKit

/-- The marks that a call makes in a tree. -/
def trailT (n : Nat) (t : T n) (c : Cl) : List Mk :=
  if okT n t = true ∧ callB c = true then
    if c.kind = 5 then [⟨c.path, (headT (orZero (atT n t c.path)).1 (orZero (atT n t c.path)).2).1⟩, ⟨c.to, (headT (orZero (atT n t c.path)).1 (orZero (atT n t c.path)).2).1⟩]
    else [⟨c.path, false⟩]
  else []

theorem mks_none (w : World) (lo hi : Nat) (a : Option Addr) (c : Nat) : MksAt w lo hi (.slice a 0 c) [] := ⟨a, c, rfl, Nat.zero_le _, fun h => by simp at h⟩

theorem mks_one {W : World} {B g : Nat} {t : TypeId} {av : Option Addr} {cv : Nat} {path : List ByteArray} {s : Bool} (hg : Blk W g #[.slice av path.length cv, .bool s] t) (hB : B ≤ g) (hs : StrsAt W B W.heap.size (.slice av path.length cv) path) : MksAt W B W.heap.size (.slice (some ⟨g, 0, none⟩) 1 1) [⟨path, s⟩] := by
  refine ⟨_, _, rfl, by unfold maxLen; simp, fun _ => ⟨g, 0, rfl, hB, hg.lt, fun i hi => ?_⟩⟩
  match i, hi with
  | 0, _ => exact ⟨av, cv, hg.cell 0 _ rfl, hg.cell 1 _ rfl, hs⟩
theorem mks_two {W : World} {B g : Nat} {t : TypeId} {av bv : Option Addr} {cv dv : Nat} {path dst : List ByteArray} {s r : Bool} (hg : Blk W g #[.slice av path.length cv, .bool s, .slice bv dst.length dv, .bool r] t) (hB : B ≤ g) (hs : StrsAt W B W.heap.size (.slice av path.length cv) path) (hr : StrsAt W B W.heap.size (.slice bv dst.length dv) dst) : MksAt W B W.heap.size (.slice (some ⟨g, 0, none⟩) 2 2) [⟨path, s⟩, ⟨dst, r⟩] := by
  refine ⟨_, _, rfl, by unfold maxLen; simp, fun _ => ⟨g, 0, rfl, hB, hg.lt, fun i hi => ?_⟩⟩
  match i, hi with
  | 0, _ => exact ⟨av, cv, hg.cell 0 _ rfl, hg.cell 1 _ rfl, hs⟩
  | 1, _ => exact ⟨bv, dv, hg.cell 2 _ rfl, hg.cell 3 _ rfl, hr⟩
/-- The two boxes of the function, and what was below. -/
def TO (w : World) (A C : Array Value) (W : World) : Prop := Blk W w.heap.size A 34 ∧ Blk W (w.heap.size + 1) C 36 ∧ Below w.heap.size w W ∧ w.heap.size + 2 ≤ W.heap.size
theorem TO.next {w W W' : World} {A C : Array Value} (h : TO w A C W) (hb : Below W.heap.size W W') : TO w A C W' :=
  ⟨h.1.below hb h.1.lt, h.2.1.below hb h.2.1.lt, h.2.2.1.trans (hb.mono h.2.2.1.size), Nat.le_trans h.2.2.2 hb.size⟩
theorem strs_cells {w W : World} {b o : Nat} {l : List ByteArray} (hcell : ∀ (i : Nat) (h : i < l.length), w.cell? ⟨b, o + i, none⟩ = some (.string l[i])) (hb : b < w.heap.size) (hB : Below w.heap.size w W) (j : Nat) (v : Value) (hv : (l.map Value.string)[j]? = some v) : W.cell? ((⟨b, o, none⟩ : Addr).add j) = some v := by
  rw [List.getElem?_map] at hv
  by_cases hj : j < l.length
  · rw [List.getElem?_eq_getElem hj] at hv
    have e : Addr.add ⟨b, o, none⟩ j = ⟨b, o + j, none⟩ := by unfold Addr.add; split <;> simp_all
    rw [e, hB.cell (p := ⟨b, o + j, none⟩) (by show b < w.heap.size; omega), hcell j hj]
    exact hv
  · rw [List.getElem?_eq_none (by omega)] at hv; cases hv

theorem after_app {w4 w5 : World} {c : Array Value} {t e : TypeId} (hgrow : ((w4.alloc (.cells c t)).alloc (.cells #[] e)).drew.grownBy w5 (Value.slice (some ⟨w4.heap.size + 1, 0, none⟩) 0 0).ownBlock) : Blk w5 w4.heap.size c t ∧ Below w4.heap.size w4 w5 := by
  have h0 : Blk ((w4.alloc (.cells c t)).alloc (.cells #[] e)).drew w4.heap.size c t := (Blk.new w4 c t).alloc _
  refine ⟨h0.grown hgrow (fun h => ?_), ?_⟩
  · have h1 : w4.heap.size = w4.heap.size + 1 := Option.some.inj h
    omega
  · have hb : Below w4.heap.size w4 ((w4.alloc (.cells c t)).alloc (.cells #[] e)).drew := (((Below.refl _ _).alloc (Nat.le_refl _) _).alloc (by simp) _).drew
    exact hb.grown hgrow hb.size (fun q hq => by have h1 : w4.heap.size + 1 = q := Option.some.inj hq; omega)

end Go.Proofs.Ytifbbbgcdklaaaa
