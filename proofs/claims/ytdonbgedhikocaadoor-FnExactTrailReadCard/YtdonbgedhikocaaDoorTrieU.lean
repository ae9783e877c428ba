/- The trie in memory: what a new place below a place, and what is put at a place, make of it. -/
import Derived.Test.YtdonbgedhikocaaDoorTrieR
namespace Go.Proofs.YtdonbgedhikocaaDoor
open Go.RowKit

/-- The trie with a new place below p. -/
def insF (F : Tri) (p : List ByteArray) (x : ByteArray) (nd : Nod) (nb : Nat) (kv dv : Value) : Tri := fun q =>
  if q = p ++ [x] then some ⟨nb, false, false, [], .slice none 0 0, .slice none 0 0⟩ else if q = p then some ⟨nd.blk, nd.has, nd.val, nd.keys ++ [x], kv, dv⟩ else F q
/-- The trie with what is put at p. -/
def putF (F : Tri) (p : List ByteArray) (nd : Nod) (v : Bool) : Tri := fun q => if q = p then some ⟨nd.blk, true, v, nd.keys, nd.kv, nd.dv⟩ else F q
def insTag (tag : Tag) (sz nb : Nat) (kv : Value) (p : List ByteArray) (x : ByteArray) : Tag := fun g => if g < sz then tag g else if g = nb then (0, p ++ [x]) else if kv.ownBlock = some g then (1, p) else (2, p)

theorem ne_snoc (p : List ByteArray) (x : ByteArray) : p ≠ p ++ [x] := fun h => by
  have := congrArg List.length h
  simp at this
theorem snoc_inj {p q : List ByteArray} {x y : ByteArray} (h : q ++ [y] = p ++ [x]) : q = p ∧ y = x := by
  have := List.append_inj' h rfl
  exact ⟨this.1, by simpa using this.2⟩

theorem insF_new (F : Tri) (p : List ByteArray) (x : ByteArray) (nd : Nod) (nb : Nat) (kv dv : Value) : insF F p x nd nb kv dv (p ++ [x]) = some ⟨nb, false, false, [], .slice none 0 0, .slice none 0 0⟩ := if_pos rfl
theorem insF_at (F : Tri) (p : List ByteArray) (x : ByteArray) (nd : Nod) (nb : Nat) (kv dv : Value) : insF F p x nd nb kv dv p = some ⟨nd.blk, nd.has, nd.val, nd.keys ++ [x], kv, dv⟩ := by
  rw [insF, if_neg (ne_snoc p x), if_pos rfl]
theorem insF_else (F : Tri) (p : List ByteArray) (x : ByteArray) (nd : Nod) (nb : Nat) (kv dv : Value) {q : List ByteArray} (h1 : q ≠ p ++ [x]) (h2 : q ≠ p) : insF F p x nd nb kv dv q = F q := by
  rw [insF, if_neg h1, if_neg h2]
theorem insF_blk {F : Tri} {p : List ByteArray} {x : ByteArray} {nd : Nod} {nb : Nat} {kv dv : Value} (hp : F p = some nd) {q : List ByteArray} (h1 : q ≠ p ++ [x]) : blkOf (insF F p x nd nb kv dv) q = blkOf F q := by
  by_cases h2 : q = p
  · subst h2
    rw [blkOf_some (insF_at ..), blkOf_some hp]
  · rw [blkOf, insF_else _ _ _ _ _ _ _ h1 h2, blkOf]
theorem insF_some {F : Tri} {p : List ByteArray} {x : ByteArray} {nd : Nod} {nb : Nat} {kv dv : Value} {q : List ByteArray} (h : (F q).isSome = true) : (insF F p x nd nb kv dv q).isSome = true := by
  by_cases h1 : q = p ++ [x]
  · subst h1; rw [insF_new]; rfl
  · by_cases h2 : q = p
    · subst h2; rw [insF_at]; rfl
    · rw [insF_else _ _ _ _ _ _ _ h1 h2]; exact h

theorem kidVals_same {F F' : Tri} {q : List ByteArray} {keys : List ByteArray} (h : ∀ y ∈ keys, blkOf F' (q ++ [y]) = blkOf F (q ++ [y])) : kidVals F' q keys = kidVals F q keys := by
  unfold kidVals
  exact List.map_congr_left fun y hy => by rw [h y hy]

theorem asc_snoc {l : List ByteArray} {x : ByteArray} (h : Asc l) (hx : ∀ y ∈ l, Op.bytesLess y.toList x.toList = true) : Asc (l ++ [x]) := by
  intro i j hi hj hij
  rw [List.length_append] at hi hj
  simp only [List.length_cons, List.length_nil] at hi hj
  have hil : i < l.length := by omega
  rw [List.getElem_append_left hil]
  by_cases hjl : j < l.length
  · rw [List.getElem_append_left hjl]
    exact h i j hil hjl hij
  · rw [List.getElem_append_right (by omega)]
    simp only [List.getElem_singleton]
    exact hx _ (List.getElem_mem hil)

structure TQ (w : World) (lo tb c : Nat) (F : Tri) (tag : Tag) (iv : Value) (items : List Value) : Prop where
  m : TM w lo tb c F tag
  q : QM w lo tb c tag iv items

theorem TM.row_lt {w : World} {base : Nat} {e : TypeId} {size : Nat} {v : Value} {n : Nat} {xs : List Value} (h : w.ownsRow base e size v n xs) {g : Nat} (hg : v.ownBlock = some g) : base ≤ g ∧ g < w.heap.size := h.lt g hg

/-- A node that a change elsewhere leaves as it is. -/
theorem NodeAt.keep {w w' : World} {lo c c' : Nat} {F F' : Tri} {tag tag' : Tag} {p : List ByteArray} {nd : Nod} (N : NodeAt w lo c F tag p nd) (hc : c ≤ c') (hsz : w.heap.size ≤ w'.heap.size) (h0 : w'.heap[nd.blk]? = w.heap[nd.blk]?)
    (hk : ∀ g, nd.kv.ownBlock = some g → w'.heap[g]? = w.heap[g]?) (hd : ∀ g, nd.dv.ownBlock = some g → w'.heap[g]? = w.heap[g]?) (ht : ∀ g, g < w.heap.size → tag' g = tag g) (hb : ∀ y ∈ nd.keys, blkOf F' (p ++ [y]) = blkOf F (p ++ [y]))
    (hs : ∀ y ∈ nd.keys, (F' (p ++ [y])).isSome = true) : NodeAt w' lo c' F' tag' p nd where
  c0 := by rw [World.cell?_of_block (w := w) h0]; exact N.c0
  c1 := by rw [World.cell?_of_block (w := w) h0]; exact N.c1
  c2 := by rw [World.cell?_of_block (w := w) h0]; exact N.c2
  c3 := by rw [World.cell?_of_block (w := w) h0]; exact N.c3
  fr := fun j hj => by rw [World.frozen?_of_block (w := w) h0]; exact N.fr j hj
  base := N.base
  lt := Nat.lt_of_lt_of_le N.lt hsz
  tb := by rw [ht _ N.lt]; exact N.tb
  kr := ownsRow_same N.kr hk
  kt := fun g hg => by rw [ht _ (N.kr.lt g hg).2]; exact N.kt g hg
  dr := by rw [kidVals_same hb]; exact ownsRow_same N.dr hd
  dt := fun g hg => by rw [ht _ (N.dr.lt g hg).2]; exact N.dt g hg
  asc := N.asc
  sz := N.sz
  len := Nat.le_trans N.len hc
  kid := hs

theorem strs_blocks {w w' : World} {lo hi : Nat} {v : Value} {l : List ByteArray} (h : StrsAt w lo hi v l) (hs : ∀ k, k < hi → w'.heap[k]? = w.heap[k]?) : StrsAt w' lo hi v l := strs_same h fun k _ h2 => hs k h2

theorem TQ.ins {w w' : World} {lo tb c : Nat} {F : Tri} {tag : Tag} {iv : Value} {items : List Value} (M : TQ w lo tb c F tag iv items) {p : List ByteArray} {x : ByteArray} {nd : Nod} (hp : F p = some nd) (hx : F (p ++ [x]) = none)
    (hlast : ∀ y ∈ nd.keys, Op.bytesLess y.toList x.toList = true) (hxs : x.size ≤ maxLen) (hlen : nd.keys.length + 1 ≤ c) {nb : Nat} {kv' dv' : Value}
    (hsz : w.heap.size ≤ w'.heap.size) (hfr : ∀ k, k < w.heap.size → k ≠ nd.blk → nd.kv.ownBlock ≠ some k → nd.dv.ownBlock ≠ some k → w'.heap[k]? = w.heap[k]?)
    (hcell : ∀ j, j ≠ 2 → j ≠ 3 → w'.cell? ⟨nd.blk, j, none⟩ = w.cell? ⟨nd.blk, j, none⟩) (hfz : ∀ j, w'.frozen? ⟨nd.blk, j, none⟩ = w.frozen? ⟨nd.blk, j, none⟩)
    (hc2 : w'.cell? ⟨nd.blk, 2, none⟩ = some kv') (hc3 : w'.cell? ⟨nd.blk, 3, none⟩ = some dv') (hnb1 : w.heap.size ≤ nb) {ty : TypeId} (hnb : Blk w' nb #[.bool false, .bool false, .slice none 0 0, .slice none 0 0] ty)
    (hkr : w'.ownsRow lo 9 1 kv' (nd.keys.length + 1) (nd.keys.map .string ++ [.string x])) (hdr : w'.ownsRow lo 81 1 dv' (nd.keys.length + 1) (kidVals F p nd.keys ++ [.pointer (some ⟨nb, 0, none⟩)]))
    (hkb : kv'.ownBlock = nd.kv.ownBlock ∨ ∃ g, kv'.ownBlock = some g ∧ w.heap.size ≤ g ∧ g ≠ nb) (hdb : dv'.ownBlock = nd.dv.ownBlock ∨ ∃ g, dv'.ownBlock = some g ∧ w.heap.size ≤ g ∧ g ≠ nb ∧ kv'.ownBlock ≠ some g) :
    TQ w' lo tb c (insF F p x nd nb kv' dv') (insTag tag w.heap.size nb kv' p x) iv items := by
  have N := M.m.node p nd hp
  have htag : ∀ g, g < w.heap.size → insTag tag w.heap.size nb kv' p x g = tag g := fun g hg => if_pos hg
  have hold : ∀ k, k < w.heap.size → tag k ≠ (0, p) → tag k ≠ (1, p) → tag k ≠ (2, p) → w'.heap[k]? = w.heap[k]? := fun k hk t0 t1 t2 =>
    hfr k hk (fun e => t0 (e ▸ N.tb)) (fun e => t1 (N.kt k e)) (fun e => t2 (N.dt k e))
  have hlo : ∀ k, k < lo → w'.heap[k]? = w.heap[k]? := fun k hk =>
    hfr k (by have := M.q.low; omega) (by have := N.base; omega) (fun e => by have := (N.kr.lt k e).1; omega) (fun e => by have := (N.dr.lt k e).1; omega)
  have hblk : ∀ q y, ¬ (q = p ∧ y = x) → blkOf (insF F p x nd nb kv' dv') (q ++ [y]) = blkOf F (q ++ [y]) := fun q y h => insF_blk hp fun e => h (snoc_inj e)
  have hxk : x ∉ nd.keys := fun h => by have := N.kid x h; rw [hx] at this; cases this
  refine ⟨⟨?_, ?_, ?_, M.m.cap⟩, ?_⟩
  · obtain ⟨nd0, h0, h1⟩ := M.m.root
    by_cases e : [] = p
    · subst e
      rw [h0] at hp
      cases hp
      exact ⟨_, insF_at .., h1⟩
    · exact ⟨nd0, by rw [insF_else _ _ _ _ _ _ _ (fun h => by have := congrArg List.length h; simp at this) e]; exact h0, h1⟩
  · intro q ndq hq
    by_cases h1 : q = p ++ [x]
    · subst h1
      rw [insF_new] at hq
      cases hq
      have hnil : ∀ g, (Value.slice none 0 0).ownBlock = some g → False := fun g h => by cases h
      refine ⟨hnb.cell 0 _ rfl, hnb.cell 1 _ rfl, hnb.cell 2 _ rfl, hnb.cell 3 _ rfl, fun j _ => hnb.frozen j, by have := M.q.low; show lo ≤ nb; omega, hnb.lt, ?_, World.ownsRow_nil _ _ _ _, fun g h => (hnil g h).elim, World.ownsRow_nil _ _ _ _, fun g h => (hnil g h).elim, ?_, (fun y h => by cases h), Nat.zero_le _, (fun y h => by cases h)⟩
      · show insTag tag w.heap.size nb kv' p x nb = _
        rw [insTag, if_neg (by omega), if_pos rfl]
      · intro i j hi; simp at hi
    · by_cases h2 : q = p
      · subst h2
        rw [insF_at] at hq
        cases hq
        refine ⟨?_, ?_, hc2, hc3, fun j hj => ?_, N.base, Nat.lt_of_lt_of_le N.lt hsz, ?_, ?_, fun g hg => ?_, ?_, fun g hg => ?_, ?_, ?_, ?_, ?_⟩
        · rw [hcell 0 (by omega) (by omega)]; exact N.c0
        · rw [hcell 1 (by omega) (by omega)]; exact N.c1
        · rw [hfz j]; exact N.fr j hj
        · show insTag tag w.heap.size nb kv' q x nd.blk = _
          rw [htag _ N.lt]; exact N.tb
        · simp only [List.length_append, List.length_cons, List.length_nil, List.map_append, List.map_cons, List.map_nil]
          exact hkr
        · rcases hkb with e | ⟨g', e, h3, h4⟩
          · have hg' : nd.kv.ownBlock = some g := by rw [← e]; exact hg
            rw [htag _ (N.kr.lt g hg').2]; exact N.kt g hg'
          · have hgg : g' = g := by have h5 : kv'.ownBlock = some g := hg; rw [e] at h5; injection h5
            subst hgg
            rw [insTag, if_neg (by omega), if_neg h4, if_pos e]
        · simp only [List.length_append, List.length_cons, List.length_nil]
          rw [show kidVals (insF F q x nd nb kv' dv') q (nd.keys ++ [x]) = kidVals F q nd.keys ++ [.pointer (some ⟨nb, 0, none⟩)] by
            rw [kidVals, List.map_append, List.map_cons, List.map_nil, blkOf_some (insF_new ..)]
            congr 1
            exact kidVals_same fun y hy => hblk q y fun h => hxk (h.2 ▸ hy)]
          exact hdr
        · rcases hdb with e | ⟨g', e, h3, h4, h5⟩
          · have hg' : nd.dv.ownBlock = some g := by rw [← e]; exact hg
            rw [htag _ (N.dr.lt g hg').2]; exact N.dt g hg'
          · have hgg : g' = g := by have h6 : dv'.ownBlock = some g := hg; rw [e] at h6; injection h6
            subst hgg
            rw [insTag, if_neg (by omega), if_neg h4, if_neg h5]
        · exact asc_snoc N.asc hlast
        · intro y hy
          rcases List.mem_append.1 hy with h | h
          · exact N.sz y h
          · rw [List.mem_singleton.1 h]; exact hxs
        · show (nd.keys ++ [x]).length ≤ c
          rw [List.length_append]; exact hlen
        · intro y hy
          rcases List.mem_append.1 hy with h | h
          · exact insF_some (N.kid y h)
          · rw [List.mem_singleton.1 h, insF_new]; rfl
      · rw [insF_else _ _ _ _ _ _ _ h1 h2] at hq
        have Nq := M.m.node q ndq hq
        have hne : ∀ (i j : Nat), (i, q) ≠ (j, p) := fun i j h => h2 (by injection h)
        refine Nq.keep (Nat.le_refl _) hsz (hold _ Nq.lt (by rw [Nq.tb]; exact hne _ _) (by rw [Nq.tb]; exact hne _ _) (by rw [Nq.tb]; exact hne _ _)) (fun g hg => ?_) (fun g hg => ?_) htag (fun y hy => hblk q y fun h => h2 h.1) fun y hy => insF_some (Nq.kid y hy)
        · exact hold g (Nq.kr.lt g hg).2 (by rw [Nq.kt g hg]; exact hne _ _) (by rw [Nq.kt g hg]; exact hne _ _) (by rw [Nq.kt g hg]; exact hne _ _)
        · exact hold g (Nq.dr.lt g hg).2 (by rw [Nq.dt g hg]; exact hne _ _) (by rw [Nq.dt g hg]; exact hne _ _) (by rw [Nq.dt g hg]; exact hne _ _)
  · intro q y hy
    by_cases h1 : q = p ∧ y = x
    · obtain ⟨rfl, rfl⟩ := h1
      exact ⟨_, insF_at .., List.mem_append_right _ (List.mem_singleton.2 rfl)⟩
    · have hqy : (F (q ++ [y])).isSome = true := by
        by_cases h2 : q ++ [y] = p
        · rw [h2, hp]; rfl
        · rw [insF_else _ _ _ _ _ _ _ (fun e => h1 (snoc_inj e)) h2] at hy
          exact hy
      obtain ⟨ndq, g1, g2⟩ := M.m.up q y hqy
      by_cases h2 : q = p
      · subst h2
        rw [hp] at g1
        cases g1
        exact ⟨_, insF_at .., List.mem_append_left _ g2⟩
      · refine ⟨ndq, ?_, g2⟩
        rw [insF_else _ _ _ _ _ _ _ ?_ h2]
        · exact g1
        · intro e
          rw [e] at g1
          rw [hx] at g1
          cases g1
  · obtain ⟨nd0, h0, h1⟩ := M.m.root
    have N0 := M.m.node _ _ h0
    have hcb : ∀ j, j = 4 ∨ j = 5 → w'.cell? ⟨tb, j, none⟩ = w.cell? ⟨tb, j, none⟩ := fun j hj => by
      by_cases e : tb = nd.blk
      · rw [e]; exact hcell j (by omega) (by omega)
      · refine World.cell?_of_block (w := w) (hold tb (h1 ▸ N0.lt) ?_ ?_ ?_)
        · intro t0
          have e2 : ([] : List ByteArray) = p := by rw [← h1, N0.tb] at t0; injection t0
          subst e2
          rw [h0] at hp
          cases hp
          exact e h1.symm
        · intro t0; rw [← h1, N0.tb] at t0; injection t0 with t1; cases t1
        · intro t0; rw [← h1, N0.tb] at t0; injection t0 with t1; cases t1
    have hfb : w'.frozen? ⟨tb, 4, none⟩ = w.frozen? ⟨tb, 4, none⟩ := by
      by_cases e : tb = nd.blk
      · rw [e]; exact hfz 4
      · refine World.frozen?_of_block (w := w) (hold tb (h1 ▸ N0.lt) ?_ ?_ ?_)
        · intro t0
          have e2 : ([] : List ByteArray) = p := by rw [← h1, N0.tb] at t0; injection t0
          subst e2
          rw [h0] at hp
          cases hp
          exact e h1.symm
        · intro t0; rw [← h1, N0.tb] at t0; injection t0 with t1; cases t1
        · intro t0; rw [← h1, N0.tb] at t0; injection t0 with t1; cases t1
    have hne : ∀ (j : Nat), j ≠ 3 → ((3, []) : Nat × List ByteArray) ≠ (j, p) := fun j hj h => hj (by injection h with h _; exact h.symm)
    exact ⟨by rw [hcb 4 (.inl rfl)]; exact M.q.c4, by rw [hfb]; exact M.q.f4, by rw [hcb 5 (.inr rfl)]; exact M.q.c5,
      ownsRow_same M.q.ir fun g hg => hold g (M.q.ir.lt g hg).2 (by rw [M.q.it g hg]; exact hne 0 (by omega)) (by rw [M.q.it g hg]; exact hne 1 (by omega)) (by rw [M.q.it g hg]; exact hne 2 (by omega)),
      fun g hg => by rw [htag g (M.q.ir.lt g hg).2]; exact M.q.it g hg, M.q.len, fun v hv => (M.q.its v hv).imp fun l hl => strs_blocks hl hlo, Nat.le_trans M.q.low hsz⟩

theorem TQ.mono {w : World} {lo tb c c' : Nat} {F : Tri} {tag : Tag} {iv : Value} {items : List Value} (M : TQ w lo tb c F tag iv items) (h : c ≤ c') (h2 : c' ≤ 1000) : TQ w lo tb c' F tag iv items :=
  ⟨⟨M.m.root, fun p nd hp => (M.m.node p nd hp).keep h (Nat.le_refl _) rfl (fun _ _ => rfl) (fun _ _ => rfl) (fun _ _ => rfl) (fun _ _ => rfl) (M.m.node p nd hp).kid, M.m.up, h2⟩,
   ⟨M.q.c4, M.q.f4, M.q.c5, M.q.ir, M.q.it, Nat.le_trans M.q.len h, M.q.its, M.q.low⟩⟩

/-- Where all that was is as it was. -/
theorem TQ.below {w w' : World} {lo tb c : Nat} {F : Tri} {tag : Tag} {iv : Value} {items : List Value} (M : TQ w lo tb c F tag iv items) (h : Below w.heap.size w w') : TQ w' lo tb c F tag iv items := by
  obtain ⟨nd0, h0, h1⟩ := M.m.root
  have N0 := M.m.node _ _ h0
  have hb : ∀ k, k < w.heap.size → w'.heap[k]? = w.heap[k]? := fun k hk => h.block k hk
  have htb := hb tb (h1 ▸ N0.lt)
  refine ⟨⟨M.m.root, fun p nd hp => ?_, M.m.up, M.m.cap⟩, ?_⟩
  · have N := M.m.node p nd hp
    exact N.keep (Nat.le_refl _) h.size (hb _ N.lt) (fun g hg => hb g (N.kr.lt g hg).2) (fun g hg => hb g (N.dr.lt g hg).2) (fun _ _ => rfl) (fun _ _ => rfl) N.kid
  · exact ⟨by rw [World.cell?_of_block (w := w) htb]; exact M.q.c4, by rw [World.frozen?_of_block (w := w) htb]; exact M.q.f4, by rw [World.cell?_of_block (w := w) htb]; exact M.q.c5,
      ownsRow_same M.q.ir fun g hg => hb g (M.q.ir.lt g hg).2, M.q.it, M.q.len, fun v hv => (M.q.its v hv).imp fun l hl => strs_blocks hl fun k hk => hb k (by have := M.q.low; omega), Nat.le_trans M.q.low h.size⟩

theorem putF_at (F : Tri) (p : List ByteArray) (nd : Nod) (v : Bool) : putF F p nd v p = some ⟨nd.blk, true, v, nd.keys, nd.kv, nd.dv⟩ := if_pos rfl
theorem putF_else (F : Tri) (p : List ByteArray) (nd : Nod) (v : Bool) {q : List ByteArray} (h : q ≠ p) : putF F p nd v q = F q := if_neg h
theorem putF_blk {F : Tri} {p : List ByteArray} {nd : Nod} {v : Bool} (hp : F p = some nd) (q : List ByteArray) : blkOf (putF F p nd v) q = blkOf F q := by
  by_cases h : q = p
  · subst h; rw [blkOf_some (putF_at ..), blkOf_some hp]
  · rw [blkOf, putF_else _ _ _ _ h, blkOf]
theorem putF_some {F : Tri} {p : List ByteArray} {nd : Nod} {v : Bool} (hp : F p = some nd) (q : List ByteArray) : (putF F p nd v q).isSome = (F q).isSome := by
  by_cases h : q = p
  · subst h; rw [putF_at, hp]; rfl
  · rw [putF_else _ _ _ _ h]

/-- What is put at a place. -/
theorem TQ.put {w : World} {lo tb c : Nat} {F : Tri} {tag : Tag} {iv : Value} {items : List Value} (M : TQ w lo tb c F tag iv items) {p : List ByteArray} {nd : Nod} (hp : F p = some nd) (v : Bool) :
    TQ ((w.setCell ⟨nd.blk, 0, none⟩ (.bool true)).setCell ⟨nd.blk, 1, none⟩ (.bool v)) lo tb c (putF F p nd v) tag iv items := by
  have N := M.m.node p nd hp
  have hsz : ((w.setCell ⟨nd.blk, 0, none⟩ (.bool true)).setCell ⟨nd.blk, 1, none⟩ (.bool v)).heap.size = w.heap.size := by simp [World.setCell]
  have hold : ∀ k, k ≠ nd.blk → ((w.setCell ⟨nd.blk, 0, none⟩ (.bool true)).setCell ⟨nd.blk, 1, none⟩ (.bool v)).heap[k]? = w.heap[k]? := fun k hk => by
    rw [Below.heap_setCell _ _ _ _ hk, Below.heap_setCell _ _ _ _ hk]
  have hcell : ∀ j, j ≠ 0 → j ≠ 1 → ((w.setCell ⟨nd.blk, 0, none⟩ (.bool true)).setCell ⟨nd.blk, 1, none⟩ (.bool v)).cell? ⟨nd.blk, j, none⟩ = w.cell? ⟨nd.blk, j, none⟩ := fun j h0 h1 => by
    rw [World.cell?_setCell_other _ _ _ _ (by intro h; injection h with _ h2 _; omega), World.cell?_setCell_other _ _ _ _ (by intro h; injection h with _ h2 _; omega)]
  have hfz : ∀ j, ((w.setCell ⟨nd.blk, 0, none⟩ (.bool true)).setCell ⟨nd.blk, 1, none⟩ (.bool v)).frozen? ⟨nd.blk, j, none⟩ = w.frozen? ⟨nd.blk, j, none⟩ := fun j => by rw [World.frozen?_setCell, World.frozen?_setCell]
  generalize hW : (w.setCell ⟨nd.blk, 0, none⟩ (.bool true)).setCell ⟨nd.blk, 1, none⟩ (.bool v) = w' at hsz hold hcell hfz ⊢
  have hc0 : w'.cell? ⟨nd.blk, 0, none⟩ = some (.bool true) := by
    rw [← hW, World.cell?_setCell_other _ _ _ _ (by intro h; injection h with _ h2 _; omega), World.cell?_setCell_same' _ _ _ (by rw [N.c0]; rfl)]
  have hc1 : w'.cell? ⟨nd.blk, 1, none⟩ = some (.bool v) := by
    rw [← hW, World.cell?_setCell_same' _ _ _ (by rw [World.cell?_setCell_other _ _ _ _ (by intro h; injection h with _ h2 _; omega), N.c1]; rfl)]
  clear hW
  have hrow : ∀ {e : TypeId} {size : Nat} {u : Value} {n : Nat} {xs : List Value} (h : w.ownsRow lo e size u n xs) (ht : ∀ g, u.ownBlock = some g → tag g ≠ (0, p)), w'.ownsRow lo e size u n xs := fun h ht => ownsRow_same h fun g hg => hold g fun e => ht g hg (e ▸ N.tb)
  refine ⟨⟨?_, ?_, ?_, M.m.cap⟩, ?_⟩
  · obtain ⟨nd0, h0, h1⟩ := M.m.root
    by_cases e : [] = p
    · subst e
      rw [h0] at hp
      cases hp
      exact ⟨_, putF_at .., h1⟩
    · exact ⟨nd0, by rw [putF_else _ _ _ _ e]; exact h0, h1⟩
  · intro q ndq hq
    by_cases h : q = p
    · subst h
      rw [putF_at] at hq
      cases hq
      exact ⟨hc0, hc1, by rw [hcell 2 (by omega) (by omega)]; exact N.c2, by rw [hcell 3 (by omega) (by omega)]; exact N.c3, fun j hj => by rw [hfz j]; exact N.fr j hj, N.base, by rw [hsz]; exact N.lt, N.tb,
        hrow N.kr (fun g hg => by rw [N.kt g hg]; intro h; injection h with h _; cases h), N.kt, by rw [kidVals_same fun y _ => putF_blk hp _]; exact hrow N.dr (fun g hg => by rw [N.dt g hg]; intro h; injection h with h _; cases h), N.dt, N.asc, N.sz, N.len, fun y hy => by rw [putF_some hp]; exact N.kid y hy⟩
    · rw [putF_else _ _ _ _ h] at hq
      have Nq := M.m.node q ndq hq
      refine Nq.keep (Nat.le_refl _) (by rw [hsz]; exact Nat.le_refl _) (hold _ fun e => ?_) (fun g hg => hold g fun e => ?_) (fun g hg => hold g fun e => ?_) (fun _ _ => rfl) (fun y _ => putF_blk hp _) fun y hy => by rw [putF_some hp]; exact Nq.kid y hy
      · have t := Nq.tb; rw [e, N.tb] at t; injection t with _ t; exact h t.symm
      · have t := Nq.kt g hg; rw [e, N.tb] at t; injection t with t _; cases t
      · have t := Nq.dt g hg; rw [e, N.tb] at t; injection t with t _; cases t
  · intro q y hy
    rw [putF_some hp] at hy
    obtain ⟨ndq, g1, g2⟩ := M.m.up q y hy
    by_cases h : q = p
    · subst h
      rw [hp] at g1
      cases g1
      exact ⟨_, putF_at .., g2⟩
    · exact ⟨ndq, by rw [putF_else _ _ _ _ h]; exact g1, g2⟩
  · have hcb : ∀ j, j = 4 ∨ j = 5 → w'.cell? ⟨tb, j, none⟩ = w.cell? ⟨tb, j, none⟩ := fun j hj => by
      by_cases e : tb = nd.blk
      · rw [e]; exact hcell j (by omega) (by omega)
      · exact World.cell?_of_block (w := w) (hold tb e)
    have hfb : w'.frozen? ⟨tb, 4, none⟩ = w.frozen? ⟨tb, 4, none⟩ := by
      by_cases e : tb = nd.blk
      · rw [e]; exact hfz 4
      · exact World.frozen?_of_block (w := w) (hold tb e)
    exact ⟨by rw [hcb 4 (.inl rfl)]; exact M.q.c4, by rw [hfb]; exact M.q.f4, by rw [hcb 5 (.inr rfl)]; exact M.q.c5, hrow M.q.ir (fun g hg => by rw [M.q.it g hg]; intro h; injection h with h _; cases h), M.q.it, M.q.len,
      fun u hu => (M.q.its u hu).imp fun l hl => strs_blocks hl fun k hk => hold k (by have := N.base; omega), by rw [hsz]; exact M.q.low⟩

end Go.Proofs.YtdonbgedhikocaaDoor
