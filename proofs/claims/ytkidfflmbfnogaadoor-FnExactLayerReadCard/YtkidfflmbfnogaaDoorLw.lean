/- lineWords: its walk over the runes of a text, as an iterator's contract. -/
import Derived.RangeFuncNested
import Derived.RangeFuncBound
import Derived.RangeFuncCalls
import Derived.RangeFuncLeaves
import Derived.Shelf.Abstract
import Derived.WalkKit
import Derived.OwnWalkIn
import Derived.TacticsInMore
import Derived.LoopIn
import Derived.WalkSpells
import Derived.Maps.AppendAt
import Derived.Lib.OthersKept
import Derived.Test.YtkidfflmbfnogaaDoorRf
import Derived.Test.YtkidfflmbfnogaaDoorLwA
import Derived.Test.YtkidfflmbfnogaaDoorCutS
namespace Go.Proofs.YtkidfflmbfnogaaDoor
open Go.RowKit Go.Shelf
attribute [local go_sem] Oper.semAt_some

/-- What comes at a round: the words' slice with its words, and whether the line is whole. -/
structure Yw where
  ad : Nat
  cap : Nat
  ws : List ByteArray
  whole : Bool
def Yw.encs (x : Yw) : Array Value := #[.slice (some ⟨x.ad, 0, none⟩) x.ws.length x.cap, .bool x.whole]
def Yw.key (x : Yw) : List ByteArray × Bool := (x.ws, x.whole)
structure WdsAt (x : Yw) (C : Nat → Prop) (W : World) : Prop where
  aside : ¬ C x.ad
  lt : x.ad < W.heap.size
  len : x.ws.length ≤ 1048577
  pos : 0 < x.ws.length
  sizes : ∀ (i : Nat) (h : i < x.ws.length), x.ws[i].size ≤ 1048576
  cells : ∀ (i : Nat) (h : i < x.ws.length), W.cell? ⟨x.ad, i, none⟩ = some (.string x.ws[i])
theorem WdsAt.less {x : Yw} {C C' : Nat → Prop} {W : World} (h : WdsAt x C W) (hc : ∀ k, C' k → C k) : WdsAt x C' W := ⟨fun k => h.aside (hc _ k), h.lt, h.len, h.pos, h.sizes, h.cells⟩
theorem WdsAt.kept {x : Yw} {C : Nat → Prop} {A B : World} (h : WdsAt x C A) (hk : Kept (fun k => ¬ C k) A B) : WdsAt x C B :=
  ⟨h.aside, Nat.lt_of_lt_of_le h.lt hk.size, h.len, h.pos, h.sizes, fun i hi => (hk.cell (p := ⟨x.ad, i, none⟩) h.lt h.aside).trans (h.cells i hi)⟩
theorem wdsAt_row {w : World} {base a cap : Nat} {ws : List ByteArray} {b : Bool} {C : Nat → Prop} (h : w.ownsRow base 9 1 (.slice (some ⟨a, 0, none⟩) ws.length cap) ws.length (ws.map .string)) (hC : ∀ k, C k → k < base) (hp : 0 < ws.length) (hl : ws.length ≤ 1048577) (hs : ∀ (i : Nat) (h : i < ws.length), ws[i].size ≤ 1048576) : WdsAt ⟨a, cap, ws, b⟩ C w := by
  obtain ⟨g, cap', hv, hb, hlt⟩ := ownsRow_at h hp
  simp only [Value.slice.injEq, Option.some.injEq, Addr.mk.injEq, and_true, true_and] at hv
  obtain ⟨rfl, rfl⟩ := hv
  refine ⟨fun hc => by have := hC a hc; omega, hlt, hl, hp, hs, fun i hi => ?_⟩
  have hi : i < ws.length := hi
  have := h.cellAt i (by omega)
  rw [this, List.getElem?_map, List.getElem?_eq_getElem hi]; rfl

theorem kept_grown {K : Nat → Prop} {A B : World} {row : Option Nat} (h : A.grownBy B row) (hr : ∀ k, row = some k → ¬ K k) : Kept K A B :=
  ⟨h.os, h.tape, h.output, h.size, fun k hk hK => h.block k hk (fun e => hr k e.symm hK)⟩
theorem kept_iterAt {K : Nat → Prop} (A : World) (k : Nat) (s : ByteArray) (p : Nat) (hk : ¬ K k) : Kept K A (A.iterAt k s p) :=
  ⟨rfl, rfl, rfl, by rw [Lib.iterAt_size]; exact Nat.le_refl _, fun i _ hi => Lib.iterAt_other A k i s p (fun e => hk (e ▸ hi))⟩
theorem row_kept {A B : World} {base : Nat} {e : TypeId} {sz : Nat} {v : Value} {n : Nat} {xs : List Value} (h : A.ownsRow base e sz v n xs) (hk : Kept (fun k => base ≤ k) A B) : B.ownsRow base e sz v n xs := by
  refine ⟨h.1, ?_⟩
  rcases h.2 with ⟨h1, h2⟩ | ⟨g, cap, cur, h1, h2, h3, h4⟩
  · exact .inl ⟨h1, h2⟩
  · exact .inr ⟨g, cap, cur, h1, h2, (hk.block g (Array.getElem?_eq_some_iff.1 h3).1 h2).trans h3, h4⟩
theorem row_aside {A : World} {base : Nat} {e : TypeId} {sz : Nat} {v : Value} {n : Nat} {xs : List Value} (h : A.ownsRow base e sz v n xs) : ∀ k, v.ownBlock = some k → base ≤ k := fun k hk => by
  rcases h.2 with ⟨rfl, _⟩ | ⟨g, cap, cur, rfl, h2, _⟩
  · simp [Value.ownBlock] at hk
  · simp [Value.ownBlock] at hk; omega

theorem row_snoc {w : World} {base : Nat} {v : Value} {ws : List ByteArray} {x : ByteArray} (h : w.ownsRow base 9 1 v (ws.length + 1) (ws.map .string ++ [.string x])) : w.ownsRow base 9 1 v (ws ++ [x]).length ((ws ++ [x]).map .string) := by simpa using h
theorem app_kept {W2 w3 : World} {o : Obj} {base : Nat} {e : TypeId} {sz : Nat} {v : Value} {n : Nat} {xs : List Value} (hR : W2.ownsRow base e sz v n xs) (hg : (W2.alloc o).grownBy w3 v.ownBlock) : Kept (fun k => k < base) W2 w3 :=
  (Kept.of_new ((Below.refl _ _).alloc (Nat.le_refl _) _)).trans (kept_grown hg (fun k hk => by have := row_aside hR k hk; omega))
theorem sizes_snoc {ws : List ByteArray} {x : ByteArray} {B : Nat} (h : ∀ (i : Nat) (h : i < ws.length), ws[i].size ≤ B) (hx : x.size ≤ B) : ∀ (i : Nat) (h : i < (ws ++ [x]).length), (ws ++ [x])[i].size ≤ B := by
  intro i hi
  by_cases hi2 : i < ws.length
  · rw [List.getElem_append_left hi2]; exact h i hi2
  · rw [List.getElem_append_right (by omega), List.getElem_singleton]; exact hx

/-- Where the walk stands in memory. -/
structure LwSt (s : ByteArray) (Bt : Nat) (W : World) (J : List Yw → (Nat → Prop) → World → Prop) (o : Value) (fr pos : Nat) (ws : List ByteArray) (wr : World) (pre : List Yw) (C1 : Nat → Prop) (base lb : Nat) (ls : List ByteArray) : Prop where
  at_ : LwAt s pos lb fr ls ws
  iter : wr.heap[W.heap.size]? = some (.stringIter s pos)
  row : wr.ownsRow base 9 1 o ws.length (ws.map .string)
  inv : J pre C1 wr
  cs : ∀ k, C1 k → k < base ∧ k ≠ W.heap.size ∧ k ≠ Bt
  base1 : W.heap.size < base
  base2 : base ≤ wr.heap.size
  key : pre.map Yw.key = ls.map (fun l => (cutB 32 l, true))
  sizes : ∀ (i : Nat) (h : i < ws.length), ws[i].size ≤ 1048576
  text : wr.cell? ⟨Bt, 0, none⟩ = some (.string s)

theorem LwSt.kept {s : ByteArray} {Bt : Nat} {W : World} {J : List Yw → (Nat → Prop) → World → Prop} {o : Value} {fr pos : Nat} {ws : List ByteArray} {wr w1 : World} {pre : List Yw} {C1 : Nat → Prop} {base lb : Nat} {ls : List ByteArray}
    (h : LwSt s Bt W J o fr pos ws wr pre C1 base lb ls) (hJ : ∀ s C1 A B, J s C1 A → Kept (fun k => k < W.heap.size ∨ C1 k) A B → J s C1 B) (hBt : Bt < W.heap.size) {pos' lb' fr' : Nat} {ws' ls' : List ByteArray} {o' : Value}
    (hk : Kept (fun k => k < base ∧ k ≠ W.heap.size) wr w1) (ha : LwAt s pos' lb' fr' ls' ws') (hi : w1.heap[W.heap.size]? = some (.stringIter s pos')) (hr : w1.ownsRow base 9 1 o' ws'.length (ws'.map .string)) (hkey : pre.map Yw.key = ls'.map (fun l => (cutB 32 l, true))) (hsz : ∀ (i : Nat) (h : i < ws'.length), ws'[i].size ≤ 1048576) :
    LwSt s Bt W J o' fr' pos' ws' w1 pre C1 base lb' ls' := by
  have h1 := h.base1
  refine ⟨ha, hi, hr, hJ _ _ _ _ h.inv (hk.mono fun k _ hc => ?_), h.cs, h.base1, Nat.le_trans h.base2 hk.size, hkey, hsz, ?_⟩
  · rcases hc with hc | hc
    · exact ⟨by omega, by omega⟩
    · exact ⟨(h.cs k hc).1, (h.cs k hc).2.1⟩
  · refine (hk.cell (p := ⟨Bt, 0, none⟩) ?_ ⟨by show Bt < base; omega, by show Bt ≠ _; omega⟩).trans h.text
    show Bt < _
    have := h.base2
    omega

end Go.Proofs.YtkidfflmbfnogaaDoor
