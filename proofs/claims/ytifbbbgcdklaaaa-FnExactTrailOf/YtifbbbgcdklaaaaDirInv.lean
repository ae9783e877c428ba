/- What holds at each round of the intake of a directory; and what a round does to it. -/
import Derived.Test.YtifbbbgcdklaaaaLow
import Derived.Test.YtifbbbgcdklaaaaPart
import Derived.Maps.AppendAt
namespace Go.Proofs.Ytifbbbgcdklaaaa
open Go.RowKit

/-- How many parts there are below the first k kids. -/
def countTo (n : Nat) (kids : List (T n)) (k : Nat) : Nat := ((kids.take k).map (countT n)).sum

structure InvD (n : Nat) (mode : Int) (box : Array Value) (names : List ByteArray) (kids : List (T n)) (d room : Int) (ib : Nat) (w : World) (k : Nat) (wr : World) (nvv kvv : Value) (pvs : List Value) (s e : Nat → Nat) : Prop where
  aside : Aside ib w wr
  size : w.heap.size + 2 ≤ wr.heap.size
  room_ : Blk wr ib #[.int .i64 (room - kids.length - countTo n kids k)] 69
  box_ : Blk wr w.heap.size box 34
  dir_ : Blk wr (w.heap.size + 1) #[.int .i64 mode, nvv, kvv] 82
  names_ : wr.ownsRow (w.heap.size + 2) 9 1 nvv k ((names.take k).map .string)
  kids_ : wr.ownsRow (w.heap.size + 2) 73 1 kvv k pvs
  apart : ∀ g, nvv.ownBlock = some g → kvv.ownBlock ≠ some g
  parts : ∀ (i : Nat) (h : i < kids.length), i < k → w.heap.size + 2 ≤ s i ∧ s i ≤ e i ∧ e i ≤ wr.heap.size ∧ (∀ g, nvv.ownBlock = some g → ¬ (s i ≤ g ∧ g < e i)) ∧ (∀ g, kvv.ownBlock = some g → ¬ (s i ≤ g ∧ g < e i)) ∧
    ∃ pv, pvs[i]? = some pv ∧ PRep wr (s i) (e i) n kids[i] pv
  good : (List.range k).all (nameAt names) = true
  fine : ∀ (i : Nat) (h : i < kids.length), i < k → partsB n kids[i] (d + 1) = true
  left : 0 ≤ room - kids.length - countTo n kids k

theorem countTo_succ (n : Nat) (kids : List (T n)) (k : Nat) (h : k < kids.length) : countTo n kids (k + 1) = countTo n kids k + countT n kids[k] := sum_drop (countT n) kids k h

/-- An append and the store of what it answers: what lies in other blocks stays. -/
theorem after_append {u w2 : World} {o : Obj} {row : Option Nat} (hg : (u.alloc o).grownBy w2 row) (bd j : Nat) (v' : Value) (k : Nat) (h1 : k < u.heap.size) (h2 : some k ≠ row) (h3 : k ≠ bd) :
    (w2.setCell ⟨bd, j, none⟩ v').heap[k]? = u.heap[k]? := by
  rw [Below.heap_setCell _ _ _ _ h3, hg.block k (by simp; omega) h2, Below.heap_alloc _ _ _ h1]

/-- ONE ROUND: the part was taken (w1), its name appended (w2), stored, the part appended (w4), stored. -/
theorem InvD.step {n : Nat} {mode : Int} {box : Array Value} {names : List ByteArray} {kids : List (T n)} {d room : Int} {ib : Nat} {w : World} {k : Nat} {wr w1 w2 w4 : World} {nvv kvv nv' kv' : Value} {pvs : List Value} {s e : Nat → Nat}
    (I : InvD n mode box names kids d room ib w k wr nvv kvv pvs s e) (hk : k < kids.length) (hkn : k < names.length) (hib : ib < w.heap.size)
    (ha : Aside ib wr w1) (hroom : Blk w1 ib #[.int .i64 (room - kids.length - countTo n kids k - countT n kids[k])] 69) {pv : Value} (hp : PRep w1 wr.heap.size w1.heap.size n kids[k] pv)
    (hfine : partsB n kids[k] (d + 1) = true) (hleft : (countT n kids[k] : Int) ≤ room - kids.length - countTo n kids k) (hname : nameAt names k = true) (o1 o2 : Obj)
    (hown : w2.ownsRow (w.heap.size + 2) 9 1 nv' (k + 1) ((names.take k).map .string ++ [.string names[k]])) (hg : (w1.alloc o1).grownBy w2 nvv.ownBlock) (hat : nv'.ownBlock = nvv.ownBlock ∨ nv'.ownBlock = some (w1.alloc o1).heap.size)
    (hown2 : w4.ownsRow (w.heap.size + 2) 73 1 kv' (k + 1) (pvs ++ [pv])) (hg2 : ((w2.setCell ⟨w.heap.size + 1, 1, none⟩ nv').alloc o2).grownBy w4 kvv.ownBlock)
    (hat2 : kv'.ownBlock = kvv.ownBlock ∨ kv'.ownBlock = some ((w2.setCell ⟨w.heap.size + 1, 1, none⟩ nv').alloc o2).heap.size) :
    InvD n mode box names kids d room ib w (k + 1) (w4.setCell ⟨w.heap.size + 1, 2, none⟩ kv') nv' kv' (pvs ++ [pv]) (fun i => if i = k then wr.heap.size else s i) (fun i => if i = k then w1.heap.size else e i) := by
  have hsz1 := ha.size
  have hsz2 : w1.heap.size + 1 ≤ w2.heap.size := by have := hg.size; simp at this; omega
  have hsz4 : w2.heap.size + 1 ≤ w4.heap.size := by have := hg2.size; simp [World.setCell] at this; omega
  have hsz := I.size
  have hnlt := I.names_.lt
  have hklt := I.kids_.lt
  -- the frame from w1 on
  have fr : ∀ j, j < w1.heap.size → some j ≠ nvv.ownBlock → some j ≠ kvv.ownBlock → j ≠ w.heap.size + 1 → (w4.setCell ⟨w.heap.size + 1, 2, none⟩ kv').heap[j]? = w1.heap[j]? := fun j h1 h2 h3 h4 => by
    rw [after_append hg2 (w.heap.size + 1) 2 kv' j (by simp [World.setCell]; omega) h3 h4, after_append hg (w.heap.size + 1) 1 nv' j h1 h2 h4]
  have low : ∀ j, j < w.heap.size + 1 → (w4.setCell ⟨w.heap.size + 1, 2, none⟩ kv').heap[j]? = w1.heap[j]? := fun j hj =>
    fr j (by omega) (fun h => by have := hnlt j h.symm; omega) (fun h => by have := hklt j h.symm; omega) (by omega)
  -- the blocks of the two rows ahead of the round
  have hnb : ∀ g, nvv.ownBlock = some g → w.heap.size + 2 ≤ g ∧ g < wr.heap.size := fun g h => hnlt g h
  have hkb : ∀ g, kvv.ownBlock = some g → w.heap.size + 2 ≤ g ∧ g < wr.heap.size := fun g h => hklt g h
  have hz1 : (w1.alloc o1).heap.size = w1.heap.size + 1 := by simp
  have hz2 : ((w2.setCell ⟨w.heap.size + 1, 1, none⟩ nv').alloc o2).heap.size = w2.heap.size + 1 := by simp [World.setCell]
  rw [hz1] at hat
  rw [hz2] at hat2
  have hnb' : ∀ g, nv'.ownBlock = some g → (nvv.ownBlock = some g) ∨ g = w1.heap.size + 1 := fun g h => by
    rcases hat with h1 | h1
    · exact .inl (by rw [← h1]; exact h)
    · rw [h1] at h; exact .inr (by simpa using h.symm)
  have hkb' : ∀ g, kv'.ownBlock = some g → (kvv.ownBlock = some g) ∨ g = w2.heap.size + 1 := fun g h => by
    rcases hat2 with h1 | h1
    · exact .inl (by rw [← h1]; exact h)
    · rw [h1] at h; exact .inr (by simpa using h.symm)
  have hnlt' := hown.lt
  have hdirW1 : Blk w1 (w.heap.size + 1) #[.int .i64 mode, nvv, kvv] 82 := I.dir_.aside ha (by omega)
  have hdirW2 : Blk w2 (w.heap.size + 1) #[.int .i64 mode, nvv, kvv] 82 := (hdirW1.alloc o1).grown hg (fun h => by have := hnb _ h.symm; omega)
  have hdirW3 : Blk (w2.setCell ⟨w.heap.size + 1, 1, none⟩ nv') (w.heap.size + 1) #[.int .i64 mode, nv', kvv] 82 := hdirW2.set 1 nv'
  have hdirW4 : Blk w4 (w.heap.size + 1) #[.int .i64 mode, nv', kvv] 82 := (hdirW3.alloc o2).grown hg2 (fun h => by have := hkb _ h.symm; omega)
  refine ⟨?_, ?_, ?_, ?_, hdirW4.set 2 kv', ?_, ?_, ?_, ?_, range_all_succ _ k I.good hname, ?_, ?_⟩
  · have a1 := I.aside.trans ha
    refine ⟨?_, ?_, ?_, by simp [World.setCell]; omega, fun j hj hne => by rw [low j (by omega)]; exact a1.block j hj hne⟩
    · show w4.os = w.os; rw [hg2.os]; show w2.os = w.os; rw [hg.os]; exact a1.os
    · show w4.tape = w.tape; rw [hg2.tape]; show w2.tape = w.tape; rw [hg.tape]; exact a1.tape
    · show w4.output = w.output; rw [hg2.output]; show w2.output = w.output; rw [hg.output]; exact a1.output
  · simp [World.setCell]; omega
  · rw [countTo_succ n kids k hk]
    have e0 : room - (kids.length : Int) - ((countTo n kids k + countT n kids[k] : Nat) : Int) = room - kids.length - countTo n kids k - countT n kids[k] := by omega
    rw [e0]
    exact (low ib (by omega)).trans hroom
  · exact (low w.heap.size (by omega)).trans (I.box_.aside ha (by omega))
  · have e1 : (names.take (k + 1)).map Value.string = (names.take k).map .string ++ [.string names[k]] := by rw [List.take_succ_eq_append_getElem hkn, List.map_append]; rfl
    rw [e1]
    refine ownsRow_same hown fun g hgg => ?_
    have hgl := hnlt' g hgg
    have hne : some g ≠ kvv.ownBlock := fun h => by
      rcases hnb' g hgg with h1 | h1
      · exact I.apart g h1 h.symm
      · have := hkb g h.symm; omega
    rw [after_append hg2 (w.heap.size + 1) 2 kv' g (by simp [World.setCell]; omega) hne (by omega), Below.heap_setCell _ _ _ _ (by show g ≠ w.heap.size + 1; omega)]
  · refine ownsRow_same hown2 fun g hgg => ?_
    have := hown2.lt g hgg
    rw [Below.heap_setCell _ _ _ _ (by show g ≠ w.heap.size + 1; omega)]
  · intro g h1 h2
    rcases hnb' g h1 with q1 | q1 <;> rcases hkb' g h2 with q2 | q2
    · exact I.apart g q1 q2
    · have := hnb g q1; omega
    · have := hkb g q2; omega
    · omega
  · intro i hi hik
    by_cases e1 : i = k
    · subst e1
      simp only [if_pos]
      refine ⟨by omega, hsz1, by simp [World.setCell]; omega, fun g h1 h2 => ?_, fun g h1 h2 => ?_, pv, ?_, ?_⟩
      · rcases hnb' g h1 with q | q
        · have := hnb g q; omega
        · omega
      · rcases hkb' g h1 with q | q
        · have := hkb g q; omega
        · omega
      · have hl : pvs.length = i := by have := I.kids_.1; omega
        rw [List.getElem?_append_right (by omega), hl]; simp
      · refine PRep.same (fun j h1 h2 => fr j h2 (fun h => ?_) (fun h => ?_) (by omega)) n _ _ hp
        · have := hnb j h.symm; omega
        · have := hkb j h.symm; omega
    · obtain ⟨p1, p2, p3, p4, p5, pv', p6, p7⟩ := I.parts i hi (by omega)
      simp only [if_neg e1]
      refine ⟨p1, p2, by simp [World.setCell]; omega, fun g h1 h2 => ?_, fun g h1 h2 => ?_, pv', ?_, ?_⟩
      · rcases hnb' g h1 with q | q
        · exact p4 g q h2
        · omega
      · rcases hkb' g h1 with q | q
        · exact p5 g q h2
        · omega
      · have hl : pvs.length = k := by have := I.kids_.1; omega
        rw [List.getElem?_append_left (by omega)]; exact p6
      · have hp1 : PRep w1 (s i) (e i) n kids[i] pv' := PRep.same (ha.sameIn (by omega) p3) n _ _ p7
        refine PRep.same (fun j h1 h2 => fr j (by omega) (fun h => ?_) (fun h => ?_) (by omega)) n _ _ hp1
        · exact p4 j h.symm ⟨h1, h2⟩
        · exact p5 j h.symm ⟨h1, h2⟩
  · intro i hi hik
    by_cases e1 : i = k
    · subst e1; exact hfine
    · exact I.fine i hi (by omega)
  · rw [countTo_succ n kids k hk]
    omega

theorem InvD.start (n : Nat) (mode : Int) (box : Array Value) (names : List ByteArray) (kids : List (T n)) (d room : Int) (ib : Nat) (w : World) (q : Nat) (hib : Blk w ib #[.int .i64 room] 69) (hr : (kids.length : Int) ≤ room) :
    InvD n mode box names kids d room ib w 0 ((((w.alloc (.cells box 34)).drewN q).setCell ⟨ib, 0, none⟩ (.int .i64 (room - kids.length))).alloc (.cells #[.int .i64 mode, .slice none 0 0, .slice none 0 0] 82)) (.slice none 0 0) (.slice none 0 0) [] (fun _ => 0) (fun _ => 0) := by
  have hlt := hib.lt
  have hz : (((w.alloc (.cells box 34)).drewN q).setCell ⟨ib, 0, none⟩ (.int .i64 (room - kids.length))).heap.size = w.heap.size + 1 := by simp [World.setCell]
  have b1 : Blk ((w.alloc (.cells box 34)).drewN q) ib #[.int .i64 room] 69 := hib.alloc _
  have b2 : Blk ((w.alloc (.cells box 34)).drewN q) w.heap.size box 34 := Blk.new w box _
  have b3 := b1.set 0 (.int .i64 (room - kids.length))
  have b4 := b2.other ⟨ib, 0, none⟩ (.int .i64 (room - kids.length)) (by show w.heap.size ≠ ib; omega)
  refine ⟨?_, by simp [World.setCell], ?_, b4.alloc _, ?_, World.ownsRow_nil _ _ _ _, World.ownsRow_nil _ _ _ _, fun g h => by simp [Value.ownBlock] at h, fun i _ h => by omega, rfl, fun i _ h => by omega, ?_⟩
  · exact ((((Aside.refl ib w).alloc _).drewN q).set (.inl rfl) _).alloc _
  · have := b3.alloc (.cells #[.int .i64 mode, .slice none 0 0, .slice none 0 0] 82)
    have e0 : room - (kids.length : Int) - ((countTo n kids 0 : Nat) : Int) = room - kids.length := by simp [countTo]
    rw [e0]
    exact this
  · have := Blk.new (((w.alloc (.cells box 34)).drewN q).setCell ⟨ib, 0, none⟩ (.int .i64 (room - kids.length))) #[.int .i64 mode, .slice none 0 0, .slice none 0 0] 82
    rwa [hz] at this
  · simp [countTo]; omega

theorem InvD.done {n : Nat} {mode : Int} {box : Array Value} {names : List ByteArray} {kids : List (T n)} {d room : Int} {ib : Nat} {w : World} {k : Nat} {wr : World} {nvv kvv : Value} {pvs : List Value} {s e : Nat → Nat}
    (I : InvD n mode box names kids d room ib w k wr nvv kvv pvs s e) (hk : k = kids.length) (hn : names.length = kids.length) (hl : kids.length ≤ maxLen) (hs : ∀ (i : Nat) (h : i < names.length), names[i].size ≤ maxLen) (data : ByteArray) :
    DRep (PRep wr w.heap.size wr.heap.size n) wr w.heap.size wr.heap.size ⟨true, mode, data, names, kids⟩ (w.heap.size + 1) := by
  have hz := I.size
  subst hk
  refine ⟨by omega, by omega, nvv, kvv, I.dir_, ?_, ?_⟩
  · have h1 := I.names_
    obtain ⟨a, cap, rfl⟩ := ownsRow_form h1
    refine ⟨a, cap, by rw [hn], by rw [hn]; exact hl, hs, fun h0 => ?_⟩
    have h0 : 0 < names.length := h0
    obtain ⟨g, cap', hv, hb, hlt⟩ := ownsRow_at h1 (by omega)
    simp only [Value.slice.injEq, true_and] at hv
    obtain ⟨rfl, rfl⟩ := hv
    refine ⟨g, 0, rfl, by omega, hlt, fun i hi => ?_⟩
    have hi : i < names.length := hi
    rw [Nat.zero_add, h1.cellAt i (by omega)]
    show _ = some (Value.string names[i])
    rw [List.getElem?_map, List.getElem?_take, if_pos (by omega), List.getElem?_eq_getElem hi]; rfl
  · have h1 := I.kids_
    obtain ⟨a, cap, rfl⟩ := ownsRow_form h1
    refine ⟨a, cap, rfl, hl, fun h0 => ?_⟩
    have h0 : 0 < kids.length := h0
    obtain ⟨g, cap', hv, hb, hlt⟩ := ownsRow_at h1 h0
    simp only [Value.slice.injEq, true_and] at hv
    obtain ⟨rfl, rfl⟩ := hv
    refine ⟨g, 0, rfl, by omega, hlt, fun i hi => ?_⟩
    have hi : i < kids.length := hi
    obtain ⟨p1, p2, p3, _, _, pv, p6, p7⟩ := I.parts i hi hi
    exact ⟨pv, by rw [Nat.zero_add, h1.cellAt i (by omega), p6], PRep.wide (by omega) p3 n _ _ p7⟩

end Go.Proofs.Ytifbbbgcdklaaaa
