/- The shelf as it stands between two of its own doings. -/
import Derived.Test.YtnahpghbodmdbaaDoorLgV
import Derived.Test.YtnahpghbodmdbaaDoorPgSh
import Derived.Test.YtnahpghbodmdbaaDoorQIW
import Derived.Test.YtnahpghbodmdbaaDoorPgIR
import Derived.Test.YtnahpghbodmdbaaDoorDel3
namespace Go.Proofs.YtnahpghbodmdbaaDoor
open Go.RowKit

/-- The shelf: its two lists and its queue, each in a row of its own. -/
structure Slf (w0 : World) (P : List Pg) (N : List Pn) (sb lb lcap : Nat) (mv iv : Value) (nq : Nat) (W : World) : Prop where
  below : Below w0.heap.size w0 W
  q : ∃ ys, QI W (w0.heap.size + 1) sb iv ys ∧ ys.length ≤ nq
  c0 : W.cell? ⟨sb, 0, none⟩ = some (.slice (some ⟨lb, 0, none⟩) 96 lcap)
  c1 : W.cell? ⟨sb, 1, none⟩ = some mv
  f1 : W.frozen? ⟨sb, 1, none⟩ = false
  lrow : W.ownsRow (w0.heap.size + 1) 74 3 (.slice (some ⟨lb, 0, none⟩) 96 lcap) 96 (flat3 fPg P)
  nrow : W.ownsRow (w0.heap.size + 1) 68 3 mv N.length (flat3 fPn N)
  plen : P.length = 96
  a1 : mv.ownBlock ≠ some lb
  a2 : iv.ownBlock ≠ some lb
  a5 : lb ≠ sb
  a6 : mv.ownBlock ≠ some sb
  a7 : ∀ g, mv.ownBlock = some g → iv.ownBlock ≠ some g
  ord : w0.heap.size < sb

theorem Slf.of {w0 : World} {P : List Pg} {N : List Pn} {sb lb lcap : Nat} {mv iv : Value} {tb : Nat} {tt : TypeId} {T : List Bool} {W : World} (h : ShT w0 P N sb lb lcap mv tb tt iv (freeN T 96) T W) (hP : P.length = 96) : Slf w0 P N sb lb lcap mv iv 96 W :=
  ⟨h.below, ⟨_, h.q, freeN_length T 96⟩, h.c0, h.c1, h.f1, h.lrow, h.nrow, hP, h.a1, h.a2, h.a5.2.2, h.a6, h.a7, h.ord.1⟩
theorem Slf.sbl {w0 : World} {P : List Pg} {N : List Pn} {sb lb lcap : Nat} {mv iv : Value} {nq : Nat} {W : World} (h : Slf w0 P N sb lb lcap mv iv nq W) : sb < W.heap.size := by
  obtain ⟨ys, hq, _⟩ := h.q
  exact hq.lt
theorem Slf.lbl {w0 : World} {P : List Pg} {N : List Pn} {sb lb lcap : Nat} {mv iv : Value} {nq : Nat} {W : World} (h : Slf w0 P N sb lb lcap mv iv nq W) : w0.heap.size < lb ∧ lb < W.heap.size := by
  have := h.lrow.lt lb rfl
  omega
theorem Slf.move {w0 : World} {P : List Pg} {N : List Pn} {sb lb lcap : Nat} {mv iv : Value} {nq : Nat} {A B : World} (h : Slf w0 P N sb lb lcap mv iv nq A) (h1 : B.os = A.os) (h2 : B.tape = A.tape) (h3 : B.output = A.output) (h4 : A.heap.size ≤ B.heap.size)
    (hk : ∀ k, k < A.heap.size → (k < w0.heap.size ∨ k = sb ∨ k = lb ∨ mv.ownBlock = some k ∨ iv.ownBlock = some k) → B.heap[k]? = A.heap[k]?) : Slf w0 P N sb lb lcap mv iv nq B := by
  have hs := h.sbl
  have hsb := hk sb hs (.inr (.inl rfl))
  obtain ⟨ys, hq, hy⟩ := h.q
  refine ⟨⟨h1.trans h.below.os, h2.trans h.below.tape, h3.trans h.below.output, Nat.le_trans h.below.size h4, fun k hk' => (hk k (Nat.lt_of_lt_of_le hk' h.below.size) (.inl hk')).trans (h.below.block k hk')⟩,
    ⟨ys, ⟨(World.cell?_of_block (a := ⟨sb, 2, none⟩) hsb).trans hq.c2, (World.frozen?_of_block (a := ⟨sb, 2, none⟩) hsb).trans hq.f2, (World.cell?_of_block (a := ⟨sb, 3, none⟩) hsb).trans hq.c3, ownsRow_same hq.ir fun g hg => hk g (hq.ir.lt g hg).2 (.inr (.inr (.inr (.inr hg)))), hq.ne, Nat.le_trans hq.low h4, Nat.lt_of_lt_of_le hq.lt h4⟩, hy⟩,
    (World.cell?_of_block (a := ⟨sb, 0, none⟩) hsb).trans h.c0, (World.cell?_of_block (a := ⟨sb, 1, none⟩) hsb).trans h.c1, (World.frozen?_of_block (a := ⟨sb, 1, none⟩) hsb).trans h.f1,
    ownsRow_same h.lrow fun g hg => hk g (h.lrow.lt g hg).2 (.inr (.inr (.inl ?_))), ownsRow_same h.nrow fun g hg => hk g (h.nrow.lt g hg).2 (.inr (.inr (.inr (.inl hg)))), h.plen, h.a1, h.a2, h.a5, h.a6, h.a7, h.ord⟩
  simp only [Value.ownBlock, Option.some.injEq] at hg
  exact hg.symm
theorem Slf.step {w0 : World} {P : List Pg} {N : List Pn} {sb lb lcap : Nat} {mv iv : Value} {nq : Nat} {A B : World} (h : Slf w0 P N sb lb lcap mv iv nq A) (hb : Below A.heap.size A B) : Slf w0 P N sb lb lcap mv iv nq B :=
  h.move hb.os hb.tape hb.output hb.size fun k hk _ => hb.block k hk

/-- Three cells of a block written. -/
def wr3 (W : World) (b k : Nat) (v : V3) : World := ((W.setCell ⟨b, k * 3, none⟩ v.1).setCell ⟨b, k * 3 + 1, none⟩ v.2.1).setCell ⟨b, k * 3 + 2, none⟩ v.2.2
theorem wr3_other (W : World) (b k : Nat) (v : V3) (j : Nat) (h : j ≠ b) : (wr3 W b k v).heap[j]? = W.heap[j]? := by
  unfold wr3
  rw [Below.heap_setCell _ _ _ _ h, Below.heap_setCell _ _ _ _ h, Below.heap_setCell _ _ _ _ h]
theorem wr3_size (W : World) (b k : Nat) (v : V3) : (wr3 W b k v).heap.size = W.heap.size := by simp [wr3, World.setCell]
theorem Slf.wipe {w0 : World} {P : List Pg} {N : List Pn} {sb lb lcap : Nat} {mv iv : Value} {nq : Nat} {W : World} (h : Slf w0 P N sb lb lcap mv iv nq W) (k : Nat) (x : Pg) (hk : k < 96) : Slf w0 (P.set k x) N sb lb lcap mv iv nq (wr3 W lb k (fPg x)) := by
  have hz := wr3_size W lb k (fPg x)
  have ho := wr3_other W lb k (fPg x)
  have hl := h.lbl
  have hsb := ho sb (fun e => h.a5 e.symm)
  obtain ⟨ys, hq, hy⟩ := h.q
  exact ⟨⟨h.below.os, h.below.tape, h.below.output, by rw [hz]; exact h.below.size, fun j hj => (ho j (by omega)).trans (h.below.block j hj)⟩,
    ⟨ys, ⟨(World.cell?_of_block (a := ⟨sb, 2, none⟩) hsb).trans hq.c2, (World.frozen?_of_block (a := ⟨sb, 2, none⟩) hsb).trans hq.f2, (World.cell?_of_block (a := ⟨sb, 3, none⟩) hsb).trans hq.c3, ownsRow_same hq.ir fun g hg => ho g (fun e => h.a2 (by rw [hg, e])), hq.ne, by rw [hz]; exact hq.low, by rw [hz]; exact hq.lt⟩, hy⟩,
    (World.cell?_of_block (a := ⟨sb, 0, none⟩) hsb).trans h.c0, (World.cell?_of_block (a := ⟨sb, 1, none⟩) hsb).trans h.c1, (World.frozen?_of_block (a := ⟨sb, 1, none⟩) hsb).trans h.f1,
    set3_row h.lrow h.plen k x hk, ownsRow_same h.nrow fun g hg => ho g (fun e => h.a1 (by rw [hg, e])), by rw [List.length_set]; exact h.plen, h.a1, h.a2, h.a5, h.a6, h.a7, h.ord⟩
theorem Slf.put {w0 : World} {P : List Pg} {N : List Pn} {sb lb lcap : Nat} {mv iv iv' : Value} {nq : Nat} {W W' : World} {ys : List Nat} (h : Slf w0 P N sb lb lcap mv iv nq W) (hq : QI W' (w0.heap.size + 1) sb iv' ys) (hy : ys.length ≤ nq + 1) (hf : QFr sb iv W W') (hat : iv'.ownBlock = iv.ownBlock ∨ ∃ g, iv'.ownBlock = some g ∧ W.heap.size ≤ g) : Slf w0 P N sb lb lcap mv iv' (nq + 1) W' := by
  have hl := h.lbl
  obtain ⟨zs, hq0, _⟩ := h.q
  have nw : ∀ b, b < W.heap.size → iv.ownBlock ≠ some b → iv'.ownBlock ≠ some b := fun b hb hn e => by
    rcases hat with e2 | ⟨g, e2, h2⟩
    · exact hn (by rw [← e2]; exact e)
    · rw [e2] at e; simp only [Option.some.injEq] at e; omega
  refine ⟨h.below.trans (hf.toBelow (by have := h.ord; omega) (fun b hb => by have := (hq0.ir.lt b hb).1; omega) h.below.size), ⟨ys, hq, hy⟩, (hf.cell 0 (by omega)).trans h.c0, (hf.cell 1 (by omega)).trans h.c1, (hf.fz 1).trans h.f1,
    ownsRow_same h.lrow fun g hg => ?_, ownsRow_same h.nrow fun g hg => hf.block g (h.nrow.lt g hg).2 (fun e => h.a6 (by rw [hg, e])) (h.a7 g hg), h.plen, h.a1, nw lb hl.2 h.a2, h.a5, h.a6, fun g hg => nw g (h.nrow.lt g hg).2 (h.a7 g hg), h.ord⟩
  simp only [Value.ownBlock, Option.some.injEq] at hg
  subst hg
  exact hf.block _ hl.2 h.a5 h.a2
theorem Slf.mono {w0 : World} {P : List Pg} {N : List Pn} {sb lb lcap : Nat} {mv iv : Value} {nq nq' : Nat} {W : World} (h : Slf w0 P N sb lb lcap mv iv nq W) (hn : nq ≤ nq') : Slf w0 P N sb lb lcap mv iv nq' W := by
  obtain ⟨ys, hq, hy⟩ := h.q
  exact ⟨h.below, ⟨ys, hq, Nat.le_trans hy hn⟩, h.c0, h.c1, h.f1, h.lrow, h.nrow, h.plen, h.a1, h.a2, h.a5, h.a6, h.a7, h.ord⟩

/-- Between two rounds of letGo. -/
structure LgI (w0 : World) (P : List Pg) (N : List Pn) (first : Int) (c : List Nat) (e0 : Int) (sb lb lcap : Nat) (mv iv0 : Value) (Bs n0 : Nat) (pre : List (Nat × Pg)) (C : Nat → Prop) (W : World) (iv : Value) : Prop where
  s : Slf w0 (dropP P (pre.map Prod.fst)) N sb lb lcap mv iv (96 + pre.length) W
  cl : C lb
  cs : C sb
  ci : ∀ g, iv.ownBlock = some g → C g
  cn : ∀ k, C k → k = lb ∨ k = sb ∨ iv0.ownBlock = some k ∨ n0 ≤ k
  ch : ∃ lf rest, chainV P (endP first pre) lf = some (rest, e0) ∧ c = pre.map Prod.fst ++ rest
  size : n0 ≤ W.heap.size
  box : Blk W Bs #[.pointer (some ⟨sb, 0, none⟩)] 46
  lt : Bs < n0 ∧ lb < n0 ∧ sb < n0 ∧ (∀ g, mv.ownBlock = some g → g < n0) ∧ w0.heap.size ≤ n0
theorem LgI.kept {w0 : World} {P : List Pg} {N : List Pn} {first : Int} {c : List Nat} {e0 : Int} {sb lb lcap : Nat} {mv iv0 : Value} {Bs n0 : Nat} {pre : List (Nat × Pg)} {C : Nat → Prop} {A B : World} {iv : Value} (h : LgI w0 P N first c e0 sb lb lcap mv iv0 Bs n0 pre C A iv) (hk : Kept (fun k => k < n0 ∨ C k) A B) : LgI w0 P N first c e0 sb lb lcap mv iv0 Bs n0 pre C B iv := by
  obtain ⟨l1, l2, l3, l4, l5⟩ := h.lt
  have hz := h.size
  refine ⟨h.s.move hk.os hk.tape hk.output hk.size fun k hk1 hk2 => hk.block k hk1 ?_, h.cl, h.cs, h.ci, h.cn, h.ch, Nat.le_trans hz hk.size, (hk.block Bs (by omega) (.inl l1)).trans h.box, h.lt⟩
  rcases hk2 with e | e | e | e | e
  · exact .inl (by omega)
  · exact .inl (by omega)
  · exact .inl (by omega)
  · exact .inl (l4 k e)
  · exact .inr (h.ci k e)
theorem LgI.rp {w0 : World} {P : List Pg} {N : List Pn} {first : Int} {c : List Nat} {e0 : Int} {sb lb lcap : Nat} {mv iv0 : Value} {Bs n0 : Nat} {pre : List (Nat × Pg)} {C : Nat → Prop} {W : World} {iv : Value} (h : LgI w0 P N first c e0 sb lb lcap mv iv0 Bs n0 pre C W iv) : RP (fun pre => dropP P (pre.map Prod.fst)) sb lb lcap pre W :=
  ⟨h.s.c0, h.s.plen, fun i hi => row3_cells h.s.lrow h.s.plen i hi⟩
/-- What the iterator tells is the page as it was. -/
theorem LgI.page {w0 : World} {P : List Pg} {N : List Pn} {first : Int} {c : List Nat} {e0 : Int} {sb lb lcap : Nat} {mv iv0 : Value} {Bs n0 : Nat} {pre : List (Nat × Pg)} {C : Nat → Prop} {W : World} {iv : Value} (h : LgI w0 P N first c e0 sb lb lcap mv iv0 Bs n0 pre C W iv) (hn : c.Nodup) (hP : P.length = 96) {x : Nat × Pg} (hx : hxQ (fun pre => dropP P (pre.map Prod.fst)) first pre x) :
    x.1 < 96 ∧ ∃ lf rest, chainV P (endP first (pre ++ [x])) lf = some (rest, e0) ∧ c = (pre ++ [x]).map Prod.fst ++ rest := by
  obtain ⟨he, hk, hp⟩ := hx
  have hk96 : x.1 < 96 := by have := hk; rw [dropP_length] at this; omega
  obtain ⟨lf, rest, h1, h2⟩ := h.ch
  rw [← he] at h1
  have hkP : x.1 < P.length := by omega
  obtain ⟨r, rfl, hf, hr⟩ := chainV_cons hkP h1
  have hnm : x.1 ∉ pre.map Prod.fst := fun hm => by
    rw [h2, List.nodup_append] at hn
    exact hn.2.2 _ hm _ (by simp) rfl
  have hpe : x.2 = P[x.1] := by
    have := dropP_other P x.1 _ hnm
    rw [List.getElem?_eq_getElem hk, List.getElem?_eq_getElem hkP] at this
    rw [← hp]
    exact Option.some.inj this
  refine ⟨hk96, lf - min lf 40, r, ?_, ?_⟩
  · rw [endP_snoc, hpe]; exact hr
  · rw [h2]; simp
/-- A round's end. -/
theorem LgI.next {w0 : World} {P : List Pg} {N : List Pn} {first : Int} {c : List Nat} {e0 : Int} {sb lb lcap : Nat} {mv iv0 : Value} {Bs n0 : Nat} {pre : List (Nat × Pg)} {C : Nat → Prop} {W W' : World} {iv iv' : Value} (h : LgI w0 P N first c e0 sb lb lcap mv iv0 Bs n0 pre C W iv) (hC : ∀ k, C k → k < W.heap.size) {x : Nat × Pg} (hx : x.1 < 96) (hch : ∃ lf rest, chainV P (endP first (pre ++ [x])) lf = some (rest, e0) ∧ c = (pre ++ [x]).map Prod.fst ++ rest)
    {ys : List Nat} (hq : QI W' (w0.heap.size + 1) sb iv' ys) (hy : ys.length ≤ 96 + pre.length + 1) (hf : QFr sb iv (wr3 W lb x.1 (fPg noPg)) W') (hat : iv'.ownBlock = iv.ownBlock ∨ ∃ g, iv'.ownBlock = some g ∧ W.heap.size ≤ g) :
    Left (fun pre C W => ∃ iv, LgI w0 P N first c e0 sb lb lcap mv iv0 Bs n0 pre C W iv) C (pre ++ [x]) W W' := by
  obtain ⟨l1, l2, l3, l4, l5⟩ := h.lt
  have hz := h.size
  have hz3 := wr3_size W lb x.1 (fPg noPg)
  have hs' := (h.s.wipe x.1 noPg hx).put hq hy hf (by rw [hz3]; exact hat)
  have hWs : W.heap.size ≤ W'.heap.size := by have := hf.size; omega
  have hdr : (dropP P (pre.map Prod.fst)).set x.1 noPg = dropP P ((pre ++ [x]).map Prod.fst) := by rw [List.map_append]; show _ = dropP P (_ ++ [x.1]); rw [dropP_snoc]
  rw [hdr] at hs'
  have hlen : 96 + pre.length + 1 = 96 + (pre ++ [x]).length := by simp; omega
  rw [hlen] at hs'
  have hbk : ∀ k, k < W.heap.size → k ≠ lb → k ≠ sb → iv.ownBlock ≠ some k → W'.heap[k]? = W.heap[k]? := fun k h1 h2 h3 h4 => (hf.block k (by omega) h3 h4).trans (wr3_other W lb x.1 _ k h2)
  refine ⟨fun j => C j ∨ (W.heap.size ≤ j ∧ j < W'.heap.size), ⟨iv', hs', .inl h.cl, .inl h.cs, fun g hg => ?_, fun j hj => ?_, hch, by omega, ?_, h.lt⟩, ⟨hf.os, hf.tape, hf.output, hWs, fun k hk hn => hbk k hk (fun e => hn (e ▸ h.cl)) (fun e => hn (e ▸ h.cs)) (fun e => hn (h.ci k e))⟩, fun j hj => hj.imp id (fun q => q.1), fun j hj => ?_⟩
  · rcases hat with e | ⟨g', e, hg'⟩
    · exact .inl (h.ci g (by rw [← e]; exact hg))
    · rw [e] at hg; cases hg
      exact .inr ⟨hg', (hq.ir.lt g (by rw [e])).2⟩
  · rcases hj with hj | hj
    · exact h.cn j hj
    · exact .inr (.inr (.inr (by omega)))
  · have hbs : W'.heap[Bs]? = W.heap[Bs]? := by
      refine hbk Bs (by omega) (fun e => ?_) (fun e => ?_) (fun e => ?_)
      · have hb := h.box
        have hr := h.s.lrow
        rcases hr.2 with ⟨h0, _⟩ | ⟨g', cap', cur, he, hg1, hg2, _⟩
        · cases h0
        · simp only [Value.slice.injEq, true_and, Option.some.injEq, Addr.mk.injEq] at he
          obtain ⟨⟨rfl, _⟩, _⟩ := he
          unfold Blk at hb
          rw [e, hg2] at hb
          simp only [Option.some.injEq, Obj.cells.injEq] at hb
          exact absurd hb.2.1 (by decide)
      · have hb := h.box
        have hc := h.s.c1
        unfold Blk at hb
        rw [e] at hb
        simp [World.cell?, hb] at hc
      · have hb := h.box
        obtain ⟨zs, hq0, _⟩ := h.s.q
        rcases hq0.ir.2 with ⟨h0, _⟩ | ⟨g', cap', cur, he, hg1, hg2, _⟩
        · rw [h0] at e; cases e
        · rw [he] at e
          simp only [Value.ownBlock, Option.some.injEq] at e
          unfold Blk at hb
          rw [← e, hg2] at hb
          simp only [Option.some.injEq, Obj.cells.injEq] at hb
          exact absurd hb.2.1 (by decide)
    exact hbs.trans h.box
  · rcases hj with hj | hj
    · have := hC j hj; omega
    · exact hj.2

theorem flat3_erase {α : Type} (f : α → V3) : ∀ (l : List α) (k : Nat), (flat3 f l).take (k * 3) ++ (flat3 f l).drop ((k + 1) * 3) = flat3 f (l.eraseIdx k)
  | [], k => by simp [flat3]
  | r :: l, 0 => by simp [flat3]
  | r :: l, k + 1 => by
    have e : flat3 f (r :: l) = [(f r).1, (f r).2.1, (f r).2.2] ++ flat3 f l := by simp [flat3]
    have e2 : flat3 f (r :: l.eraseIdx k) = [(f r).1, (f r).2.1, (f r).2.2] ++ flat3 f (l.eraseIdx k) := by simp [flat3]
    rw [List.eraseIdx_cons_succ, e2, ← flat3_erase f l k, e, show (k + 1) * 3 = k * 3 + 3 by omega, show (k + 1 + 1) * 3 = (k + 1) * 3 + 3 by omega]
    simp
    omega
/-- A name taken out. -/
theorem Slf.del {w0 : World} {P : List Pg} {N : List Pn} {sb lb lcap : Nat} {mv iv v' : Value} {nq : Nat} {W W1 : World} (h : Slf w0 P N sb lb lcap mv iv nq W) (pos : Nat) (hp : pos < N.length) (hr : W1.ownsRow (w0.heap.size + 1) 68 3 v' (N.length - 1) ((flat3 fPn N).take (pos * 3) ++ (flat3 fPn N).drop ((pos + 1) * 3))) (hg : W.grownBy W1 mv.ownBlock) (hv : v'.ownBlock = mv.ownBlock) :
    Slf w0 P (N.eraseIdx pos) sb lb lcap v' iv nq (W1.setCell ⟨sb, 1, none⟩ v') := by
  have hs := h.sbl
  have hl := h.lbl
  obtain ⟨ys, hq, hy⟩ := h.q
  have b1 : ∀ k, k < W.heap.size → mv.ownBlock ≠ some k → W1.heap[k]? = W.heap[k]? := fun k hk hn => hg.block k hk (fun e => hn e.symm)
  have b2 : ∀ k, k < W.heap.size → mv.ownBlock ≠ some k → k ≠ sb → (W1.setCell ⟨sb, 1, none⟩ v').heap[k]? = W.heap[k]? := fun k hk hn he => (Below.heap_setCell _ _ _ _ he).trans (b1 k hk hn)
  have hsb := b1 sb hs h.a6
  have hz : (W1.setCell ⟨sb, 1, none⟩ v').heap.size = W1.heap.size := by simp [World.setCell]
  have hgs := hg.size
  have oth : ∀ j, j ≠ 1 → (W1.setCell ⟨sb, 1, none⟩ v').cell? ⟨sb, j, none⟩ = W.cell? ⟨sb, j, none⟩ := fun j hj => by
    rw [World.cell?_setCell_other _ _ _ _ (by intro e; injection e with _ e2 _; omega), World.cell?_of_block (a := ⟨sb, j, none⟩) hsb]
  have fz : ∀ j, (W1.setCell ⟨sb, 1, none⟩ v').frozen? ⟨sb, j, none⟩ = W.frozen? ⟨sb, j, none⟩ := fun j => by
    rw [World.frozen?_setCell, World.frozen?_of_block (a := ⟨sb, j, none⟩) hsb]
  have hlen : (N.eraseIdx pos).length = N.length - 1 := by rw [List.length_eraseIdx, if_pos hp]
  refine ⟨?_, ⟨ys, ⟨(oth 2 (by omega)).trans hq.c2, (fz 2).trans hq.f2, (oth 3 (by omega)).trans hq.c3, ownsRow_same hq.ir fun g hg' => b2 g (hq.ir.lt g hg').2 (fun e => h.a7 g e hg') (fun e => hq.ne (by rw [hg', e])), hq.ne, by have := hq.low; omega, by have := hq.lt; omega⟩, hy⟩, (oth 0 (by omega)).trans h.c0, ?_, (fz 1).trans h.f1, ownsRow_same h.lrow fun g hg' => ?_, ?_, h.plen, by rw [hv]; exact h.a1, h.a2, h.a5, by rw [hv]; exact h.a6, by rw [hv]; exact h.a7, h.ord⟩
  · refine ⟨hg.os.trans h.below.os, hg.tape.trans h.below.tape, hg.output.trans h.below.output, by have := h.below.size; omega, fun k hk => (b2 k (by have := h.below.size; omega) (fun e => by have := (h.nrow.lt k e).1; omega) (by have := h.ord; omega)).trans (h.below.block k hk)⟩
  · exact World.cell?_setCell_same' _ _ _ (by rw [World.cell?_of_block (a := ⟨sb, 1, none⟩) hsb, h.c1]; rfl)
  · have e : g = lb := by simp only [Value.ownBlock, Option.some.injEq] at hg'; exact hg'.symm
    subst e
    exact b2 _ hl.2 h.a1 h.a5
  · rw [hlen, ← flat3_erase]
    exact ownsRow_same hr fun g hg' => Below.heap_setCell _ _ _ _ (fun e : g = sb => h.a6 (by rw [← hv, hg', e]))

end Go.Proofs.YtnahpghbodmdbaaDoor
