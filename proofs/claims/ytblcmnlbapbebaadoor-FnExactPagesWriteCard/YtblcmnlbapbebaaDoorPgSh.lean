/- The program's shelfOf: the shelf's two lists are copies, the free places are in the queue. -/
import Derived.Test.YtblcmnlbapbebaaDoorPgT
import Derived.Test.YtblcmnlbapbebaaDoorPgA
import Derived.Test.YtblcmnlbapbebaaDoorPgC
import Derived.Test.YtblcmnlbapbebaaDoorQI
namespace Go.Proofs.YtblcmnlbapbebaaDoor
open Go.RowKit

theorem info_pname : ∃ i, Tryd.prog.info? 40 = some i ∧ i.zero = some (.agg #[.string ⟨#[]⟩, .int .i64 0, .int .i64 0]) ∧ i.size = 3 ∧ i.bytes = 32 := by
  obtain ⟨i, hi, h⟩ := Option.map_eq_some_iff.1 (show (Tryd.prog.info? 40).map (fun i => (i.zero, i.size, i.bytes)) = some (some (.agg #[.string ⟨#[]⟩, .int .i64 0, .int .i64 0]), 3, 32) by kernel_rfl)
  simp only [Prod.mk.injEq] at h
  exact ⟨i, hi, h.1, h.2.1, h.2.2⟩
theorem flat_oneN (l : List Pn) : ∀ u ∈ flat3 fPn l, u.oneCell' = true := fun u hu => by
  obtain ⟨p, _, h⟩ := List.mem_flatMap.1 hu
  simp only [fPn, List.mem_cons, List.not_mem_nil, or_false] at h
  rcases h with rfl | rfl | rfl <;> simp [Value.oneCell']

/-- The free places among the first k. -/
def freeN (T : List Bool) (k : Nat) : List Nat := (List.range k).filter fun a => !(T.getD a false)
theorem freeN_succ (T : List Bool) (k : Nat) : freeN T (k + 1) = if T.getD k false = true then freeN T k else freeN T k ++ [k] := by
  unfold freeN
  rw [List.range_succ, List.filter_append]
  by_cases h : T.getD k false = true
  · rw [if_pos h, List.filter_cons_of_neg (by rw [h]; simp), List.filter_nil, List.append_nil]
  · have h' : T.getD k false = false := by revert h; cases T.getD k false <;> simp
    rw [if_neg h, List.filter_cons_of_pos (by rw [h']; rfl), List.filter_nil]
theorem freeN_lt (T : List Bool) (k a : Nat) (h : a ∈ freeN T k) : a < k := List.mem_range.1 (List.mem_filter.1 h).1
theorem freeN_length (T : List Bool) (k : Nat) : (freeN T k).length ≤ k := by
  have := List.length_filter_le (fun a => !(T.getD a false)) (List.range k)
  rw [List.length_range] at this
  exact this

/-- 'append([]PageName(nil), names...)', at a step of a region that draws. -/
theorem step_names {ops : Array Oper} {o : Oper} {a : Act} {K : Act → World → Prop} {Q : Exit → Act → World → Prop} {E : Prop} {w : World} (hgd : o.guard = none) (x : Operand)
    (ho : o.op = .call { callee := .builtin .append, args := #[.const (.slice none 0 0), x], argTypes := #[29, 29] })
    (N : List Pn) (na : Option Addr) (nc lo hi base : Nat) (hx : a.eval x = .slice na N.length nc) (hn : RcsAt fPn w lo hi (.slice na N.length nc) N) (hN : N.length ≤ 16) (hbase : base ≤ w.heap.size)
    (h : ∀ mv w', w'.ownsRow base 40 3 mv N.length (flat3 fPn N) → w.grownBy w' none → (∀ g, mv.ownBlock = some g → g = w.heap.size) → K (a.put o.dst mv) w') :
    if Region.wanted o (yielded ops a.tmps) = true then Oper.wp Tryd.prog o a w K Q else E := by
  have hw : Region.wanted o (yielded ops a.tmps) = true := by simp [Region.wanted, hgd]
  rw [if_pos hw]
  have hk0 : a.eval (.const (.slice none 0 0)) = .slice none 0 0 := rfl
  obtain ⟨iR, hiR, hzR, hsR, hbR⟩ := info_pname
  obtain ⟨a0, c0, e0, _, hc⟩ := hn
  simp only [Value.slice.injEq] at e0
  obtain ⟨rfl, _, rfl⟩ := e0
  cases na with
  | none =>
    have hN0 : N = [] := by
      rcases Nat.eq_zero_or_pos N.length with h0 | h0
      · exact List.eq_nil_of_length_eq_zero h0
      · obtain ⟨b, o, h1, _⟩ := hc h0; cases h1
    subst hN0
    have hr : (Builtin.append_ #[29, 29] o.type #[.slice none 0 0, .slice none 0 nc]).run Tryd.prog w = .ok (.slice none 0 0) w := by
      simp [Builtin.append_, run_underlying Tryd.underlying29, sizeOf, typeInfo, hiR, Builtin.lenOf, Builtin.firstCells]
    unfold Oper.wp execOp
    simp only [ho, resolve, invoke, builtin, Sem.run_bind, Sem.run_pure, Result.andThen_ok, List.map_toArray, List.map_cons, List.map_nil, hx, hk0]
    rw [show ([] : List Pn).length = 0 from rfl, hr]
    exact h _ _ (World.ownsRow_nil w base _ _) ⟨rfl, rfl, rfl, Nat.le_refl _, fun _ _ _ => rfl⟩ (fun g hg => by cases hg)
  | some ad =>
    obtain ⟨mv, w', hr, h2, h3, _, h5⟩ := run_append_own_at (P := Tryd.prog) w base 29 o.type 40 iR (.agg #[.string ⟨#[]⟩, .int .i64 0, .int .i64 0]) 3 32 Tryd.underlying29 hiR hzR hsR hbR rfl (by decide) (.slice none 0 0) 0 [] (World.ownsRow_nil w base _ _) ad N.length nc (flat3 fPn N) (flat3_length fPn N)
      (fun j u hu => by
        rcases Nat.eq_zero_or_pos N.length with h0 | h0
        · rw [List.getElem?_eq_none (by rw [flat3_length]; omega)] at hu; cases hu
        · obtain ⟨b, o2, h1, _, _, hcell⟩ := hc h0
          cases h1
          exact rcs_news hcell j u hu) (flat_oneN N) (by unfold maxLen; omega) (by omega) hbase
    unfold Oper.wp execOp
    simp only [ho, resolve, invoke, builtin, Sem.run_bind, Sem.run_pure, Result.andThen_ok, List.map_toArray, List.map_cons, List.map_nil, hx, hk0]
    rw [hr]
    refine h mv w' (by simpa using h2) h3 (fun g hg => ?_)
    rcases h5 with e | e
    · rw [e] at hg; cases hg
    · rw [e] at hg; cases hg; rfl

/-- The new shelf. -/
structure ShN (w : World) (P : List Pg) (N : List Pn) (A : Array Value) (sb lb lcap : Nat) (mv : Value) (W : World) : Prop where
  below : Below w.heap.size w W
  box : Blk W w.heap.size A 31
  sh : Blk W sb #[.slice (some ⟨lb, 0, none⟩) 96 lcap, mv, .slice none 0 0, .func (.func 30) #[] #[]] 76
  lrow : W.ownsRow (w.heap.size + 1) 64 3 (.slice (some ⟨lb, 0, none⟩) 96 lcap) 96 (flat3 fPg P)
  nrow : W.ownsRow (w.heap.size + 1) 40 3 mv N.length (flat3 fPn N)
  apart : mv.ownBlock ≠ some lb
  ord : w.heap.size + 1 ≤ lb ∧ lb < sb ∧ ∀ g, mv.ownBlock = some g → g < sb

/-- The shelf between two rounds: its lists, its queue, the places that are taken. -/
structure ShT (w : World) (P : List Pg) (N : List Pn) (sb lb lcap : Nat) (mv : Value) (tb : Nat) (tt : TypeId) (iv : Value) (xs : List Nat) (T1 : List Bool) (W : World) : Prop where
  below : Below w.heap.size w W
  q : QI W (w.heap.size + 1) sb iv xs
  c0 : W.cell? ⟨sb, 0, none⟩ = some (.slice (some ⟨lb, 0, none⟩) 96 lcap)
  c1 : W.cell? ⟨sb, 1, none⟩ = some mv
  lrow : W.ownsRow (w.heap.size + 1) 64 3 (.slice (some ⟨lb, 0, none⟩) 96 lcap) 96 (flat3 fPg P)
  nrow : W.ownsRow (w.heap.size + 1) 40 3 mv N.length (flat3 fPn N)
  trow : W.rowIs tb tt 96 (fun j => .bool (T1.getD j false))
  tlen : T1.length = 96
  a1 : mv.ownBlock ≠ some lb
  a2 : iv.ownBlock ≠ some lb
  a3 : iv.ownBlock ≠ some tb
  a4 : mv.ownBlock ≠ some tb
  a5 : tb ≠ sb ∧ tb ≠ lb ∧ lb ≠ sb
  a6 : mv.ownBlock ≠ some sb
  a7 : ∀ g, mv.ownBlock = some g → iv.ownBlock ≠ some g
  ord : w.heap.size < sb ∧ w.heap.size < tb
  f1 : W.frozen? ⟨sb, 1, none⟩ = false

theorem ShT.step {w : World} {P : List Pg} {N : List Pn} {sb lb lcap : Nat} {mv : Value} {tb : Nat} {tt : TypeId} {iv : Value} {xs : List Nat} {T1 : List Bool} {W W' : World} (h : ShT w P N sb lb lcap mv tb tt iv xs T1 W) (hb : Below W.heap.size W W') : ShT w P N sb lb lcap mv tb tt iv xs T1 W' := by
  refine ⟨h.below.trans (hb.mono h.below.size), h.q.below hb, (hb.cell (p := ⟨sb, 0, none⟩) h.q.lt).trans h.c0, (hb.cell (p := ⟨sb, 1, none⟩) h.q.lt).trans h.c1, ownsRow_same h.lrow fun g hg => hb.block g (h.lrow.lt g hg).2, ownsRow_same h.nrow fun g hg => hb.block g (h.nrow.lt g hg).2, ?_, h.tlen, h.a1, h.a2, h.a3, h.a4, h.a5, h.a6, h.a7, h.ord, (hb.frozen (p := ⟨sb, 1, none⟩) h.q.lt).trans h.f1⟩
  obtain ⟨cells, hc1, hc⟩ := h.trow
  exact ⟨cells, (hb.block _ h.trow.lt).trans hc1, hc⟩
theorem ShT.took {w : World} {P : List Pg} {N : List Pn} {sb lb lcap : Nat} {mv : Value} {tb : Nat} {tt : TypeId} {iv : Value} {xs : List Nat} {T1 T2 : List Bool} {W W' : World} (h : ShT w P N sb lb lcap mv tb tt iv xs T1 W) (ha : Aside tb W W') (ht : W'.rowIs tb tt 96 (fun j => .bool (T2.getD j false))) (hl : T2.length = 96) :
    ShT w P N sb lb lcap mv tb tt iv xs T2 W' := by
  have o1 := h.a5
  have bl : ∀ k, k < W.heap.size → k ≠ tb → W'.heap[k]? = W.heap[k]? := ha.block
  have sbl := bl sb h.q.lt (by omega)
  refine ⟨h.below.trans (ha.toBelow (by have := h.ord; omega) h.below.size), ?_, (World.cell?_of_block (a := ⟨sb, 0, none⟩) sbl).trans h.c0, (World.cell?_of_block (a := ⟨sb, 1, none⟩) sbl).trans h.c1, ownsRow_same h.lrow fun g hg => bl g (h.lrow.lt g hg).2 (fun e => ?_), ownsRow_same h.nrow fun g hg => bl g (h.nrow.lt g hg).2 (fun e => h.a4 (by rw [hg, e])), ht, hl, h.a1, h.a2, h.a3, h.a4, h.a5, h.a6, h.a7, h.ord, (World.frozen?_of_block (a := ⟨sb, 1, none⟩) sbl).trans h.f1⟩
  · exact ⟨(World.cell?_of_block (a := ⟨sb, 2, none⟩) sbl).trans h.q.c2, (World.frozen?_of_block (a := ⟨sb, 2, none⟩) sbl).trans h.q.f2, (World.cell?_of_block (a := ⟨sb, 3, none⟩) sbl).trans h.q.c3, ownsRow_same h.q.ir fun g hg => bl g (h.q.ir.lt g hg).2 (fun e => h.a3 (by rw [hg, e])), h.q.ne, Nat.le_trans h.q.low ha.size, Nat.lt_of_lt_of_le h.q.lt ha.size⟩
  · simp only [Value.ownBlock, Option.some.injEq] at hg
    omega
theorem ShT.put {w : World} {P : List Pg} {N : List Pn} {sb lb lcap : Nat} {mv : Value} {tb : Nat} {tt : TypeId} {iv iv' : Value} {xs ys : List Nat} {T1 : List Bool} {W W' : World} (h : ShT w P N sb lb lcap mv tb tt iv xs T1 W) (hq : QI W' (w.heap.size + 1) sb iv' ys) (hf : QFr sb iv W W') (hat : iv'.ownBlock = iv.ownBlock ∨ ∃ g, iv'.ownBlock = some g ∧ W.heap.size ≤ g) :
    ShT w P N sb lb lcap mv tb tt iv' ys T1 W' := by
  have o1 := h.a5
  have hll := (h.lrow.lt lb rfl)
  have htl := h.trow.lt
  have nw : ∀ b, b < W.heap.size → iv.ownBlock ≠ some b → iv'.ownBlock ≠ some b := fun b hb hn e => by
    rcases hat with e2 | ⟨g, e2, h2⟩
    · exact hn (by rw [← e2]; exact e)
    · rw [e2] at e; simp only [Option.some.injEq] at e; omega
  refine ⟨h.below.trans (hf.toBelow (by have := h.ord; omega) (fun b hb => by have := (h.q.ir.lt b hb).1; omega) h.below.size), hq, (hf.cell 0 (by omega)).trans h.c0, (hf.cell 1 (by omega)).trans h.c1, ownsRow_same h.lrow fun g hg => ?_, ownsRow_same h.nrow fun g hg => hf.block g (h.nrow.lt g hg).2 (fun e => h.a6 (by rw [hg, e])) (h.a7 g hg), ?_, h.tlen, h.a1, nw lb hll.2 h.a2, nw tb htl h.a3, h.a4, h.a5, h.a6, fun g hg => nw g (h.nrow.lt g hg).2 (h.a7 g hg), h.ord, (hf.fz 1).trans h.f1⟩
  · simp only [Value.ownBlock, Option.some.injEq] at hg
    subst hg
    exact hf.block _ hll.2 (by omega) h.a2
  · obtain ⟨cells, hc1, hc⟩ := h.trow
    exact ⟨cells, (hf.block _ htl (by omega) h.a3).trans hc1, hc⟩

theorem areB_size : ∀ (N : List Pn) (pr : Option ByteArray), areB pr N = true → ∀ n ∈ N, 0 ≤ n.size ∧ n.size ≤ 3000
  | [], _, _, n, hn => by cases hn
  | x :: r, pr, h, n, hn => by
    simp only [areB, Bool.and_eq_true, decide_eq_true_eq] at h
    rcases List.mem_cons.1 hn with rfl | hn
    · exact ⟨h.1.1.2, h.1.2⟩
    · exact areB_size r _ h.2 n hn
theorem takeAll_at (P : List Pg) (N : List Pn) (k : Nat) (h : k < N.length) (T : List Bool) : takeAll P (N.drop k) T = (takeV P N[k].first N[k].size.toNat T).bind (takeAll P (N.drop (k + 1))) := by
  rw [List.drop_eq_getElem_cons h, takeAll]
theorem okV_no {P : List Pg} {N : List Pn} (h : takeAll P N (List.replicate 96 false) = none) : okV P N = none := by
  unfold okV; rw [h]; split <;> rfl
theorem okV_rest {P : List Pg} {N : List Pn} {T : List Bool} (h : takeAll P N (List.replicate 96 false) = some T) {a : Nat} (ha : a < P.length) (ht : T.getD a false = false) (hf : freeB P[a] = false) : okV P N = none := by
  unfold okV
  rw [h]
  have : restB P T ≠ true := fun hr => by
    have := of_decide_eq_true hr a ha ht
    rw [hf] at this; cases this
  split
  · simp only; rw [if_neg this]
  · rfl
theorem okV_yes {P : List Pg} {N : List Pn} {T : List Bool} (hP : P.length = 96) (hN : N.length ≤ 16) (hA : areB none N = true) (h : takeAll P N (List.replicate 96 false) = some T) (hf : ∀ (a : Nat) (h : a < P.length), T.getD a false = false → freeB P[a] = true) : okV P N = some T := by
  unfold okV
  rw [if_pos ⟨hP, hN, hA⟩, h]
  simp only
  rw [if_pos (show restB P T = true from decide_eq_true hf)]

/-- Behind take. -/
structure TkR (wr : World) (P : List Pg) (first : Int) (m : Nat) (T1 : List Bool) (tb : Nat) (tt : TypeId) (b : Bool) (wx : World) : Prop where
  aside : Aside tb wr wx
  no : takeV P first m T1 = none → b = false
  yes : ∀ T', takeV P first m T1 = some T' → b = true ∧ T'.length = 96 ∧ wx.rowIs tb tt 96 (fun j => .bool (T'.getD j false))
theorem TkR.of {wr W5 wx : World} {P : List Pg} {first : Int} {m : Nat} {T1 : List Bool} {tb : Nat} {tt : TypeId} {b : Bool} (h0 : Below wr.heap.size wr W5) (ha : Aside tb W5 wx) (hno : takeV P first m T1 = none → b = false)
    (hyes : ∀ T', takeV P first m T1 = some T' → b = true ∧ T'.length = 96 ∧ wx.rowIs tb tt 96 (fun j => .bool (T'.getD j false))) : TkR wr P first m T1 tb tt b wx :=
  ⟨⟨ha.os.trans h0.os, ha.tape.trans h0.tape, ha.output.trans h0.output, Nat.le_trans h0.size ha.size, fun k h1 h2 => (ha.block k (Nat.lt_of_lt_of_le h1 h0.size) h2).trans (h0.block k h1)⟩, hno, hyes⟩

theorem zero96 : Tryd.zeroCells77 = Array.replicate 96 (.bool false) := by kernel_rfl
theorem row96 (w : World) : (w.alloc (.cells Tryd.zeroCells77 77)).rowIs w.heap.size 77 96 (fun j => .bool ((List.replicate 96 false).getD j false)) :=
  ⟨_, Go.Deep.blk_alloc_new _ _, by rw [zero96]; simp, fun i hi => by
    show _ = some (Value.bool ((List.replicate 96 false).getD i false))
    rw [rep_getD, zero96]; simp [hi]⟩

/-- What shelfOf answers. -/
def ShelfPost (w : World) (P : List Pg) (N : List Pn) (e : Ending) (w' : World) : Prop :=
  Below w.heap.size w w' ∧ (okV P N = none → e = .returned (.tuple #[.pointer none, .iface 70 (.agg #[.int .i64 1])])) ∧
    ∀ T, okV P N = some T → ∃ sb lb lcap mv tb tt iv, e = .returned (.tuple #[.pointer (some ⟨sb, 0, none⟩), .nilIface]) ∧ ShT w P N sb lb lcap mv tb tt iv (freeN T 96) T w'
theorem ShelfPost.no {w : World} {P : List Pg} {N : List Pn} {w' : World} (h : okV P N = none) (hb : Below w.heap.size w w') : ShelfPost w P N (.returned (.tuple #[.pointer none, .iface 70 (.agg #[.int .i64 1])])) w' :=
  ⟨hb, fun _ => rfl, fun T hT => by rw [h] at hT; cases hT⟩

theorem row_base {w : World} {base base' : Nat} {e : TypeId} {size : Nat} {v : Value} {n : Nat} {xs : List Value} (h : w.ownsRow base e size v n xs) (hb : base' ≤ base) : w.ownsRow base' e size v n xs := by
  rcases h with ⟨q1, q2 | ⟨g, cap, cur, q3, q4, q5⟩⟩
  · exact ⟨q1, .inl q2⟩
  · exact ⟨q1, .inr ⟨g, cap, cur, q3, by omega, q5⟩⟩

theorem shN_of {w w1 w2 w3 : World} {P : List Pg} {N : List Pn} {A : Array Value} {lb lcap : Nat} {mv : Value} (h1 : Below w.heap.size w w1 ∧ Blk w1 w.heap.size A 31 ∧ w.heap.size + 1 ≤ w1.heap.size)
    (hr : w2.ownsRow w1.heap.size 64 3 (.slice (some ⟨lb, 0, none⟩) 96 lcap) 96 (flat3 fPg P)) (h2 : Below w1.heap.size w1 w2) (hown : w3.ownsRow (w.heap.size + 1) 40 3 mv N.length (flat3 fPn N)) (hg : w2.grownBy w3 none) (hat : ∀ g, mv.ownBlock = some g → g = w2.heap.size) :
    ShN w P N A w3.heap.size lb lcap mv (w3.alloc (.cells #[.slice (some ⟨lb, 0, none⟩) 96 lcap, mv, .slice none 0 0, .func (.func 30) #[] #[]] 76)) := by
  have hl := hr.lt lb rfl
  have hs := hg.size
  have hb3 : Below w2.heap.size w2 w3 := ⟨hg.os, hg.tape, hg.output, hg.size, fun k hk => hg.block k hk (by simp)⟩
  have hb13 : Below w1.heap.size w1 w3 := h2.trans (hb3.mono h2.size)
  have hba := fun o => (Below.refl w3.heap.size w3).alloc (Nat.le_refl _) o
  refine ⟨(h1.1.trans (hb13.mono h1.1.size)).alloc (by have := h1.1.size; have := hb13.size; omega) _, ((h1.2.1.below hb13 h1.2.1.lt).alloc _), Blk.new _ _ _, ?_, ?_, fun e => ?_, by omega, by omega, fun g hg' => ?_⟩
  · exact (row_base (ownsRow_same hr fun g hg' => hg.block g (hr.lt g hg').2 (by simp)) h1.2.2).alloc _
  · exact hown.alloc _
  · have := hat lb e; omega
  · exact (hown.lt g hg').2

set_option maxHeartbeats 8000000 in
set_option maxRecDepth 100000 in
theorem shelfOf_any (P : List Pg) (N : List Pn) (pv nv : Value) (w : World) (lo hi : Nat) (hp : RcsAt fPg w lo hi pv P) (hn : RcsAt fPn w lo hi nv N) (hhi : hi ≤ w.heap.size)
    (hs : ∀ (i : Nat) (h : i < P.length), P[i].data.size ≤ maxLen) (hsn : ∀ (i : Nat) (h : i < N.length), N[i].name.size ≤ maxLen) :
    Calls Tryd.prog 16 #[.agg #[pv, nv]] w (fun e w' => ShelfPost w P N e w') := by
  have hPl := hp.len
  have hNl := hn.len
  unfold maxLen at hPl hNl
  obtain ⟨pa, pc, rfl⟩ : ∃ a c, pv = .slice a P.length c := by obtain ⟨a, c, e, _⟩ := hp; exact ⟨_, _, e⟩
  obtain ⟨na, nc, rfl⟩ : ∃ a c, nv = .slice a N.length c := by obtain ⟨a, c, e, _⟩ := hn; exact ⟨_, _, e⟩
  have HBo : Hid (∀ o, Below w.heap.size w (w.alloc o)) := fun o => (Below.refl _ _).alloc (Nat.le_refl _) o
  by_cases hP : P.length = 96
  case neg =>
    have hne : ((P.length : Int) != 96) = true := by simp; omega
    have HV : Hid (okV P N = none) := by show _ = _; unfold okV; rw [if_neg (fun h => hP h.1)]
    clear hp hn
    go_enter Tryd.func16, Tryd.ntmps16
    go_wp2_with fail
    go_ret2
    exact ShelfPost.no HV.out (HBo.out _)
  have HAr := hide (fun (W : World) (hW : Below w.heap.size w W) => areNames_any N _ W lo hi (hn.keep hW hhi) (Nat.le_trans hhi hW.size) hsn)
  by_cases hok : (decide (N.length ≤ 16) && areB none N) = true
  case neg =>
    have hok' : (decide (N.length ≤ 16) && areB none N) = false := by revert hok; cases (decide (N.length ≤ 16) && areB none N) <;> simp
    have HV : Hid (okV P N = none) := by
      show _ = _
      unfold okV
      rw [if_neg]
      intro h
      rw [h.2.2, Bool.and_true] at hok'
      exact of_decide_eq_false hok' h.2.1
    rw [hok'] at HAr
    have hne : ((P.length : Int) != 96) = false := by simp; omega
    clear hp hn hok hok'
    go_enter Tryd.func16, Tryd.ntmps16
    go_wp2_with fail
    refine (HAr.out _ (HBo.out _)).mono ?_
    rintro e w1 ⟨rfl, hB1⟩
    have HB1 : Hid (Below w.heap.size w w1) := (HBo.out _).trans (hB1.mono (HBo.out _).size)
    clear hB1
    go_wp2_with fail
    go_ret2
    exact ShelfPost.no HV.out HB1.out
  have hok2 := hok
  rw [Bool.and_eq_true] at hok2
  have hN16 : N.length ≤ 16 := of_decide_eq_true hok2.1
  have hA : areB none N = true := hok2.2
  rw [hok] at HAr
  clear hok hok2
  have HCl := hide (fun (W : World) (hW : Below w.heap.size w W) => clonePg_any P _ W lo hi (hp.keep hW hhi) (Nat.le_trans hhi hW.size) (by omega) (by omega))
  rw [hP] at HCl
  have hne : ((P.length : Int) != 96) = false := by simp; omega
  have HNm := hide hn
  clear hp hn
  go_enter Tryd.func16, Tryd.ntmps16
  go_wp2_with fail
  generalize hW : w.alloc (.cells #[.slice pa 96 pc, .slice na N.length nc] 31) = W
  have HW : Hid (Below w.heap.size w W ∧ Blk W w.heap.size #[.slice pa 96 pc, .slice na N.length nc] 31 ∧ W.heap.size = w.heap.size + 1) := by subst hW; exact ⟨(Below.refl _ _).alloc (Nat.le_refl _) _, Blk.new w _ _, by simp⟩
  clear hW
  refine (HAr.out W HW.out.1).mono ?_
  rintro e w1 ⟨rfl, hB1⟩
  have HW1 : Hid (Below w.heap.size w w1 ∧ Blk w1 w.heap.size #[.slice pa 96 pc, .slice na N.length nc] 31 ∧ w.heap.size + 1 ≤ w1.heap.size) := ⟨HW.out.1.trans (hB1.mono HW.out.1.size), HW.out.2.1.below hB1 HW.out.2.1.lt, by have := HW.out.2.2; have := hB1.size; omega⟩
  clear hB1 HW HAr
  have x0 := HW1.out.2.1.cell 0 _ rfl
  have x1 := HW1.out.2.1.cell 1 _ rfl
  go_upto_region 3 with fail
  have HNv : Hid (∀ W, Below w.heap.size w W → RcsAt fPn W lo hi (.slice na N.length nc) N) := fun W hW => HNm.out.keep hW hhi
  have HX1 : Hid (∀ W, Below w1.heap.size w1 W → W.cell? ⟨w.heap.size, 1, none⟩ = some (.slice na N.length nc)) := fun W hW => (HW1.out.2.1.below hW HW1.out.2.1.lt).cell 1 _ rfl
  go_cut [4] from 22 to 30 (fun x4 wx => ∃ sb lb lcap ma mc, x4 = .pointer (some ⟨sb, 0, none⟩) ∧ Hid (ShN w P N #[.slice pa 96 pc, .slice na N.length nc] sb lb lcap (.slice ma N.length mc) wx))
  case first =>
    have hb1 : Below w1.heap.size w1 w1.drew := (Below.refl _ _).drew
    go_region_law (first
      | (refine step_names rfl (.tmp 26) rfl N na nc lo hi (w.heap.size + 1) (by first | (simp [Act.eval]; done) | simp [Act.eval, Act.put]) (HNv.out _ (HW1.out.1.trans (HB2.out.mono HW1.out.1.size))) hN16 (by have := HW1.out.2.2; have := HB2.out.size; omega) ?_
         intro mv w3 hown hg hat
         obtain ⟨ma, mc, rfl⟩ := ownsRow_form hown
         have HE := hide (shN_of HW1.out HR2.out HB2.out hown hg hat)
         clear hown hg hat)
      | (rw [if_pos (by simp [Region.wanted])]; go_simp; go_at_call 29; refine (HCl.out _ HW1.out.1.drew).mono ?_; rintro e w2 ⟨g, c, rfl, hr, hB⟩; have HR2 := hide hr; have HB2 : Hid (Below w1.heap.size w1 w2) := undrewB hB; have y1 := HX1.out _ HB2.out; clear hr hB))
    all_goals
      go_wp2_with fail
      go_meet
      exact ⟨_, _, _, _, _, rfl, HE⟩
  case rest =>
    obtain ⟨sb, lb, lcap, ma, mc, rfl, HS⟩ := hcut
    have s1 := HS.out.sh.cell 1 _ rfl
    have s0 := HS.out.sh.cell 0 _ rfl
    have sl := HS.out.sh.lt
    clear x0 x1
    go_wp2_with fail
    have HT : Hid (ShT w P N sb lb lcap (.slice ma N.length mc) wc.heap.size 77 (.slice none 0 0) (freeN (List.replicate 96 false) 0) (List.replicate 96 false) (wc.alloc (.cells Tryd.zeroCells77 77))) := by
      have ho := HS.out.ord
      have hl1 := HS.out.lrow.lt lb rfl
      have hba := (Below.refl wc.heap.size wc).alloc (Nat.le_refl _) (.cells Tryd.zeroCells77 77)
      have q := HS.out.sh.alloc (.cells Tryd.zeroCells77 77)
      refine ⟨HS.out.below.trans (hba.mono HS.out.below.size), ⟨q.cell 2 _ rfl, q.frozen 2, q.cell 3 _ rfl, ⟨rfl, .inl ⟨rfl, rfl⟩⟩, (fun e => by cases e), by simp; omega, q.lt⟩, q.cell 0 _ rfl, q.cell 1 _ rfl, HS.out.lrow.alloc _, HS.out.nrow.alloc _, row96 wc, by simp, HS.out.apart, (fun e => by cases e), (fun e => by cases e), fun e => ?_, by omega, fun e => ?_, (fun g _ e => by cases e), (by omega), q.frozen 1⟩
      · have := (HS.out.nrow.lt _ e).2; omega
      · have := ho.2.2 _ e; omega
    have HTk : Hid (∀ (W : World) (n : Pn) (iv : Value) (xs : List Nat) (T1 : List Bool), ShT w P N sb lb lcap (.slice ma N.length mc) wc.heap.size 77 iv xs T1 W → 0 ≤ n.size ∧ n.size ≤ 3000 → Calls Tryd.prog 31 #[.pointer (some ⟨sb, 0, none⟩), .agg #[.string n.name, .int .i64 n.first, .int .i64 n.size], .slice (some ⟨wc.heap.size, 0, none⟩) 96 96] W (fun e w' => TakePost W P n.first n.size.toNat T1 wc.heap.size 77 e w')) := fun W n iv xs T1 hT hz => by
      have hl1 := hT.lrow.lt lb rfl
      have := take_any P n.first n.size.toNat n.name T1 sb lb lcap wc.heap.size 77 W hP (by omega) hs hT.c0 (fun i hi => by
        obtain ⟨x0, x1, x2⟩ := flat3_at fPg P i hi
        have cl : ∀ j u, (flat3 fPg P)[j]? = some u → W.cell? ⟨lb, j, none⟩ = some u := fun j u hu => by
          by_cases hj : j < 96 * 3
          · rw [hT.lrow.cellAt j hj]; exact hu
          · rw [List.getElem?_eq_none (by rw [flat3_length]; omega)] at hu; cases hu
        exact ⟨cl _ _ x0, cl _ _ x1, cl _ _ x2⟩) hT.tlen hT.trow ⟨hT.a5.1, hT.a5.2.1⟩ hT.q.lt hl1.2
      rwa [Int.toNat_of_nonneg hz.1] at this
    clear s0 s1 sl
    generalize wc.heap.size = tb at HT HTk ⊢
    generalize wc.alloc (.cells Tryd.zeroCells77 77) = W0 at HT ⊢
    go_loopw [36] (fun iv wr => ∃ (k : Nat) (T1 : List Bool), iv = .int .i64 k ∧ k ≤ N.length ∧ Hid (ShT w P N sb lb lcap (.slice ma N.length mc) tb 77 (.slice none 0 0) (freeN (List.replicate 96 false) 0) T1 wr) ∧ Hid (takeAll P N (List.replicate 96 false) = takeAll P (N.drop k) T1)) (fun iv _ => N.length - (intOf iv).toNat)
    case atStart => exact ⟨0, List.replicate 96 false, rfl, Nat.zero_le _, HT, by rw [List.drop_zero]; rfl⟩
    case round =>
      obtain ⟨k, T1, rfl, hk, HI, HE⟩ := hrel
      clear HT
      by_cases hlt : k < N.length
      · have hltI : (k : Int) < (N.length : Int) := by omega
        obtain ⟨g, cap, hv, hg1, hg2⟩ := ownsRow_at HI.out.nrow (by omega)
        simp only [Value.slice.injEq, true_and] at hv
        obtain ⟨rfl, rfl⟩ := hv
        obtain ⟨y0, y1, y2⟩ := flat3_at fPn N k hlt
        rw [← HI.out.nrow.cellAt _ (by omega)] at y0 y1 y2
        simp only [fPn] at y0 y1 y2
        have hsz := areB_size N none hA N[k] (List.getElem_mem hlt)
        have HEk := hide (takeAll_at P N k hlt T1)
        go_upto_region 8 with fail
        go_cut [44] from 38 to 44 (fun c wx => ∃ b, c = .bool (!b) ∧ Hid (TkR wr P N[k].first N[k].size.toNat T1 tb 77 b wx))
        case first =>
          have hb5 : Below wr.heap.size wr (wr.alloc (.cells #[.string N[k].name, .int .i64 N[k].first, .int .i64 N[k].size] 40)) := (Below.refl _ _).alloc (Nat.le_refl _) _
          have HB5 := hide hb5
          have HB6 := hide hb5.drew
          have HI5 := hide (HI.out.step hb5)
          have HI6 := hide (HI.out.step hb5.drew)
          clear hb5
          go_region_with (go_at_call 31; refine (HTk.out _ N[k] _ _ _ HI6.out hsz).mono ?_; rintro e w6 ⟨b, rfl, hA6, hno, hyes⟩; have HR := hide (TkR.of HB6.out hA6 hno hyes); clear hA6 hno hyes)
          all_goals
            go_wp2_with fail
            go_meet
            exact ⟨_, rfl, HR⟩
        case rest =>
          obtain ⟨b, rfl, HR⟩ := hcut
          cases htk : takeV P N[k].first N[k].size.toNat T1 with
          | none =>
            obtain rfl := HR.out.no htk
            have HV : Hid (okV P N = none) := okV_no (by rw [HE.out, HEk.out, htk]; rfl)
            go_wp2_with fail
            go_ret2
            exact ShelfPost.no HV.out (HI.out.below.trans (HR.out.aside.toBelow (by have := HI.out.ord; omega) HI.out.below.size))
          | some T2 =>
            obtain ⟨rfl, hl2, hr2⟩ := HR.out.yes T2 htk
            have HI2 := hide (HI.out.took HR.out.aside hr2 hl2)
            have HE2 : Hid (takeAll P N (List.replicate 96 false) = takeAll P (N.drop (k + 1)) T2) := by
              show _ = _
              rw [HE.out, HEk.out, htk]; rfl
            clear hr2 hl2
            go_wp2_with fail
            go_roundw
            case rel => exact ⟨k + 1, T2, by go_num, by omega, HI2, HE2⟩
            case measure => simp [intOf]; omega
      · obtain rfl : k = N.length := by omega
        have HE2 : Hid (takeAll P N (List.replicate 96 false) = some T1) := by
          show _ = _
          rw [HE.out, List.drop_length]; rfl
        clear HE
        have s0 := HI.out.c0
        go_wp2_with fail
        go_loopw [53] (fun iv wr => ∃ (a : Nat) (qv : Value), iv = .int .i64 a ∧ a ≤ 96 ∧ Hid (ShT w P N sb lb lcap (.slice ma N.length mc) tb 77 qv (freeN T1 a) T1 wr) ∧ Hid (∀ (i : Nat) (h : i < P.length), i < a → T1.getD i false = false → freeB P[i] = true)) (fun iv _ => 96 - (intOf iv).toNat)
        case atStart => exact ⟨0, .slice none 0 0, rfl, Nat.zero_le _, HI, fun i _ h => by omega⟩
        case round =>
          obtain ⟨a, qv, rfl, ha96, HQ, HF⟩ := hrel
          clear HI s0
          by_cases hal : a < 96
          · have haI : (a : Int) < 96 := by omega
            have haP : a < P.length := by omega
            obtain ⟨y0, y1, y2⟩ := flat3_at fPg P a haP
            rw [← HQ.out.lrow.cellAt _ (by omega)] at y0 y1 y2
            simp only [fPg] at y0 y1 y2
            have r0 := HQ.out.trow.cell hal
            have rl := HQ.out.trow.lt
            cases ht : T1.getD a false with
            | true =>
              rw [ht] at r0
              have HQ2 : Hid (∀ o, ShT w P N sb lb lcap (.slice ma N.length mc) tb 77 qv (freeN T1 (a + 1)) T1 (wr.alloc o)) := fun o => by
                rw [freeN_succ, if_pos ht]; exact HQ.out.step ((Below.refl _ _).alloc (Nat.le_refl _) o)
              have HT1 := hide ht
              go_wp2_with fail
              go_roundw
              case rel =>
                refine ⟨a + 1, qv, by go_num, by omega, HQ2.out _, fun i hi hia hti => ?_⟩
                by_cases e : i = a
                · subst e; rw [HT1.out] at hti; cases hti
                · exact HF.out i hi (by omega) hti
              case measure => simp [intOf]; omega
            | false =>
              rw [ht] at r0
              rcases Bool.eq_false_or_eq_true P[a].used with hu | hu
              · rw [hu] at y0
                have HV : Hid (okV P N = none) := okV_rest HE2.out haP ht (by simp [freeB, hu])
                have HBo : Hid (∀ o, Below w.heap.size w (wr.alloc o)) := fun o => HQ.out.below.trans (((Below.refl _ _).alloc (Nat.le_refl _) o).mono HQ.out.below.size)
                go_wp2_with fail
                go_ret2
                exact ShelfPost.no HV.out (HBo.out _)
              · rw [hu] at y0
                by_cases hd : P[a].data.size = 0
                · have hde : P[a].data = ⟨#[]⟩ := by apply ByteArray.ext; exact Array.eq_empty_of_size_eq_zero hd
                  rw [hde] at y1
                  by_cases hn : P[a].next = -1
                  · rw [hn] at y2
                    have hfr : freeB P[a] = true := by simp [freeB, hu, hd, hn]
                    have HFr := hide hfr
                    have HT1 := hide ht
                    have HPt : Hid (∀ o, Calls Tryd.prog 32 #[.pointer (some ⟨sb, 2, none⟩), .int .i64 (a : Int)] (wr.alloc o) fun e w' => e = .returned (.tuple #[]) ∧ ∃ qv', ShT w P N sb lb lcap (.slice ma N.length mc) tb 77 qv' (freeN T1 (a + 1)) T1 w') := fun o => by
                      have h5 := HQ.out.step ((Below.refl _ _).alloc (Nat.le_refl _) o)
                      refine (qPutI_any (wr.alloc o) (w.heap.size + 1) sb qv (freeN T1 a) a h5.q (fun y hy => by have := freeN_lt T1 a y hy; omega) (by have := freeN_length T1 a; omega)).mono ?_
                      rintro e w' ⟨h1, iv', hq, hf, hat⟩
                      refine ⟨h1, iv', ?_⟩
                      rw [freeN_succ, if_neg (by rw [ht]; exact Bool.false_ne_true)]
                      exact h5.put hq hf hat
                    clear hfr ht hde
                    go_wp2_with fail
                    refine (HPt.out _).mono ?_
                    rintro e w5 ⟨rfl, qv', hq5⟩
                    have HQ5 := hide hq5
                    clear hq5
                    go_wp2_with fail
                    go_roundw
                    case rel =>
                      refine ⟨a + 1, qv', by go_num, by omega, HQ5, fun i hi hia hti => ?_⟩
                      by_cases e : i = a
                      · subst e; exact HFr.out
                      · exact HF.out i hi (by omega) hti
                    case measure => simp [intOf]; omega
                  · have hnb : (P[a].next == (-1 : Int)) = false := by simpa using hn
                    have HV : Hid (okV P N = none) := okV_rest HE2.out haP ht (by simp [freeB, hn])
                    have HBo : Hid (∀ o, Below w.heap.size w (wr.alloc o)) := fun o => HQ.out.below.trans (((Below.refl _ _).alloc (Nat.le_refl _) o).mono HQ.out.below.size)
                    go_wp2_with fail
                    go_ret2
                    exact ShelfPost.no HV.out (HBo.out _)
                · have hdl : ¬ P[a].data.toList = [] := fun e => hd (by rw [ByteArray.toList_eq] at e; have := congrArg List.length e; simpa using this)
                  have HV : Hid (okV P N = none) := okV_rest HE2.out haP ht (by simp [freeB, hd])
                  have HBo : Hid (∀ o, Below w.heap.size w (wr.alloc o)) := fun o => HQ.out.below.trans (((Below.refl _ _).alloc (Nat.le_refl _) o).mono HQ.out.below.size)
                  go_wp2_with fail
                  go_ret2
                  exact ShelfPost.no HV.out (HBo.out _)
          · obtain rfl : a = 96 := by omega
            have HV : Hid (okV P N = some T1) := okV_yes hP hN16 hA HE2.out (fun i hi ht => HF.out i hi (by omega) ht)
            go_wp2_with fail
            go_ret2
            refine ⟨HQ.out.below, fun hno => ?_, fun T hT => ?_⟩
            · rw [HV.out] at hno; cases hno
            · rw [HV.out] at hT; cases hT
              exact ⟨sb, lb, lcap, _, tb, _, qv, rfl, HQ.out⟩

end Go.Proofs.YtblcmnlbapbebaaDoor
