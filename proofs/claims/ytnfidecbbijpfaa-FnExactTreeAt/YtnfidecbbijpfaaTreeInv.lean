/- What holds at each round of a copy of a directory that grows kid by kid; and what a round does to it. -/
import Derived.Test.YtnfidecbbijpfaaCopyN
import Derived.Test.YtnfidecbbijpfaaSmall
namespace Go.Proofs.Ytnfidecbbijpfaa
open Go.RowKit

/-- The five cells of a part. -/
def cells5of (n : Nat) (t : T n) (nv kv : Value) : List Value := [.bool (headT n t).1, .int .i64 (headT n t).2.1, .string (headT n t).2.2, nv, kv]

structure InvT (n : Nat) (hd : List Value) (nvv : Value) (kids : List (T n)) (bx : Nat) (w : World) (k : Nat) (wr : World) (kvv : Value) (xs : List Value) (s e : Nat → Nat) : Prop where
  lt : bx < w.heap.size
  aside : Aside bx w wr
  dir_ : Blk wr bx (hd ++ [nvv, kvv]).toArray 30
  row : wr.ownsRow w.heap.size 30 5 kvv k xs
  parts : ∀ (i : Nat) (h : i < kids.length), i < k → w.heap.size ≤ s i ∧ s i ≤ e i ∧ e i ≤ wr.heap.size ∧ (i + 1 < k → e i ≤ s (i + 1)) ∧ (∀ g, kvv.ownBlock = some g → ¬ (s i ≤ g ∧ g < e i)) ∧
    ∃ nv kv, xs[i * 5]? = some (.bool (headT n kids[i]).1) ∧ xs[i * 5 + 1]? = some (.int .i64 (headT n kids[i]).2.1) ∧ xs[i * 5 + 2]? = some (.string (headT n kids[i]).2.2) ∧ xs[i * 5 + 3]? = some nv ∧ xs[i * 5 + 4]? = some kv ∧ Own wr n (s i) (e i) kids[i] nv kv

theorem InvT.step {n : Nat} {hd : List Value} (hhd : hd.length = 3) {nvv : Value} {kids : List (T n)} {bx : Nat} {w : World} {k : Nat} {wr w1 w2 : World} {kvv kv' : Value} {xs : List Value} {s e : Nat → Nat}
    (I : InvT n hd nvv kids bx w k wr kvv xs s e) (hk : k < kids.length) (hb : Below wr.heap.size wr w1) {nv kv : Value} (ho : Own w1 n wr.heap.size w1.heap.size kids[k] nv kv) (o : Obj)
    (hown : w2.ownsRow w.heap.size 30 5 kv' (k + 1) (xs ++ cells5of n kids[k] nv kv)) (hg : (w1.alloc o).grownBy w2 kvv.ownBlock) (hat : kv'.ownBlock = kvv.ownBlock ∨ kv'.ownBlock = some (w1.heap.size + 1)) :
    InvT n hd nvv kids bx w (k + 1) (w2.setCell ⟨bx, 4, none⟩ kv') kv' (xs ++ cells5of n kids[k] nv kv) (fun i => if i = k then wr.heap.size else s i) (fun i => if i = k then w1.heap.size else e i) := by
  have hsz1 := hb.size
  have hsz2 : w1.heap.size + 1 ≤ w2.heap.size := by have := hg.size; simp at this; omega
  have hrl := I.row.lt
  have hbl := I.dir_.lt
  have hx5 : xs.length = k * 5 := I.row.1
  have fr : ∀ j, j < w1.heap.size → some j ≠ kvv.ownBlock → j ≠ bx → (w2.setCell ⟨bx, 4, none⟩ kv').heap[j]? = w1.heap[j]? := fun j h1 h2 h3 => after_append hg bx 4 kv' j h1 h2 h3
  have hkb' : ∀ g, kv'.ownBlock = some g → (kvv.ownBlock = some g) ∨ g = w1.heap.size + 1 := fun g h => by
    rcases hat with h1 | h1
    · exact .inl (by rw [← h1]; exact h)
    · rw [h1] at h; exact .inr (by simpa using h.symm)
  have hlt := I.lt
  have hws := I.aside.size
  refine ⟨hlt, ?_, ?_, ?_, ?_⟩
  · have a1 := I.aside.below hb
    refine ⟨?_, ?_, ?_, ?_, fun j hj hne => ?_⟩
    · show w2.os = w.os; rw [hg.os]; exact a1.os
    · show w2.tape = w.tape; rw [hg.tape]; exact a1.tape
    · show w2.output = w.output; rw [hg.output]; exact a1.output
    · have := a1.size; simp [World.setCell]; omega
    · rw [fr j (by omega) (fun h => by have := hrl j h.symm; omega) hne]; exact a1.block j hj hne
  · have h1 : Blk w1 bx (hd ++ [nvv, kvv]).toArray 30 := I.dir_.below hb hbl
    have h2 : Blk w2 bx (hd ++ [nvv, kvv]).toArray 30 := (h1.alloc o).grown hg (fun h => by have := hrl bx h.symm; omega)
    have h3 := h2.set 4 kv'
    have e0 : (hd ++ [nvv, kvv]).toArray.setIfInBounds 4 kv' = (hd ++ [nvv, kv']).toArray := by
      match hd, hhd with
      | [a, b, c], _ => rfl
    rwa [e0] at h3
  · refine ownsRow_same hown fun g hgg => ?_
    have := hown.lt g hgg
    rw [Below.heap_setCell _ _ _ _ (by show g ≠ bx; omega)]
  · intro i hi hik
    by_cases e1 : i = k
    · subst e1
      simp only [if_pos]
      refine ⟨by omega, hsz1, by simp [World.setCell]; omega, fun h => by omega, fun g h1 h2 => ?_, nv, kv, ?_, ?_, ?_, ?_, ?_, ?_⟩
      · rcases hkb' g h1 with q | q
        · have := hrl g q; omega
        · omega
      · rw [List.getElem?_append_right (by omega), hx5, Nat.sub_self]; rfl
      · rw [List.getElem?_append_right (by omega), hx5, Nat.add_sub_cancel_left]; rfl
      · rw [List.getElem?_append_right (by omega), hx5, Nat.add_sub_cancel_left]; rfl
      · rw [List.getElem?_append_right (by omega), hx5, Nat.add_sub_cancel_left]; rfl
      · rw [List.getElem?_append_right (by omega), hx5, Nat.add_sub_cancel_left]; rfl
      · refine Own.same n _ _ _ _ _ (fun j h1 h2 => fr j h2 (fun h => ?_) (by omega)) ho
        have := hrl j h.symm; omega
    · obtain ⟨p1, p2, p3, p4, p5, nv', kv2, q0, q1, q2, q3, q4, p7⟩ := I.parts i hi (by omega)
      simp only [if_neg e1]
      refine ⟨p1, p2, by simp [World.setCell]; omega, fun hh => ?_, fun g h1 h2 => ?_, nv', kv2, ?_, ?_, ?_, ?_, ?_, ?_⟩
      · by_cases e2 : i + 1 = k
        · rw [if_pos e2]; exact p3
        · rw [if_neg e2]; exact p4 (by omega)
      · rcases hkb' g h1 with q | q
        · exact p5 g q h2
        · omega
      · rw [List.getElem?_append_left (by omega)]; exact q0
      · rw [List.getElem?_append_left (by omega)]; exact q1
      · rw [List.getElem?_append_left (by omega)]; exact q2
      · rw [List.getElem?_append_left (by omega)]; exact q3
      · rw [List.getElem?_append_left (by omega)]; exact q4
      · have hp1 : Own w1 n (s i) (e i) kids[i] nv' kv2 := Own.same n _ _ _ _ _ (sameIn_below hb p3) p7
        exact Own.same n _ _ _ _ _ (fun j h1 h2 => fr j (by omega) (fun h => p5 j h.symm ⟨h1, h2⟩) (by omega)) hp1

/-- All kids are there: the row is a slice of kids of one's own. -/
theorem InvT.done {n : Nat} {hd : List Value} {nvv : Value} {kids : List (T n)} {bx : Nat} {w : World} {k : Nat} {wr : World} {kvv : Value} {xs : List Value} {s e : Nat → Nat}
    (I : InvT n hd nvv kids bx w k wr kvv xs s e) (hk : k = kids.length) (hl : kids.length ≤ maxLen) : ∃ bk, (0 < kids.length → w.heap.size ≤ bk ∧ bk < wr.heap.size) ∧ OwnKids (Own wr n) (headT n) wr w.heap.size wr.heap.size bk s e kvv kids := by
  subst hk
  have h1 := I.row
  obtain ⟨a, cap, rfl⟩ := ownsRow_form h1
  by_cases h0 : 0 < kids.length
  · obtain ⟨g, cap', hv, hb, hlt⟩ := ownsRow_at h1 h0
    simp only [Value.slice.injEq, true_and] at hv
    obtain ⟨rfl, rfl⟩ := hv
    refine ⟨g, fun _ => ⟨hb, hlt⟩, ⟨_, _, rfl, fun _ => rfl⟩, hl, fun _ => ⟨hb, hlt⟩, fun i hi => ?_, fun i hi => ?_⟩
    · obtain ⟨p1, p2, p3, p4, p5, _⟩ := I.parts i hi hi
      exact ⟨p1, p2, p3, p4, p5 g rfl⟩
    · obtain ⟨_, _, _, _, _, nv, kv, q0, q1, q2, q3, q4, p7⟩ := I.parts i hi hi
      refine ⟨nv, kv, ?_, ?_, ?_, ?_, ?_, fun j hj => h1.frozenAt _, p7⟩
      · rw [h1.cellAt _ (by omega), q0]
      · rw [h1.cellAt _ (by omega), q1]
      · rw [h1.cellAt _ (by omega), q2]
      · rw [h1.cellAt _ (by omega), q3]
      · rw [h1.cellAt _ (by omega), q4]
  · have hnil : kids = [] := List.eq_nil_of_length_eq_zero (by omega)
    subst hnil
    exact ⟨0, fun h => by omega, ⟨a, cap, rfl, fun h => by simp at h⟩, hl, fun h => by simp at h, fun i h => by simp at h, fun i h => by simp at h⟩

end Go.Proofs.Ytnfidecbbijpfaa
