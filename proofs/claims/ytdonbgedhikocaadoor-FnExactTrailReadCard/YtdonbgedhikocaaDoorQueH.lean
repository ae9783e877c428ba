/- The trail's queue within container/heap: up, Push; put. -/
import Derived.Test.YtdonbgedhikocaaDoorQue
namespace Go.Proofs.YtdonbgedhikocaaDoor
open Go.RowKit

def qTag (tag : Tag) (sz : Nat) : Tag := fun b => if b < sz then tag b else (3, [])

/-- A change of the queue alone. -/
theorem TQ.qch {w w' : World} {lo tb c : Nat} {F : Tri} {tag : Tag} {iv iv' : Value} {items items' : List Value} (M : TQ w lo tb c F tag iv items) (hsz : w.heap.size ≤ w'.heap.size)
    (hfr : ∀ k, k < w.heap.size → k ≠ tb → iv.ownBlock ≠ some k → w'.heap[k]? = w.heap[k]?) (hcell : ∀ j, j ≠ 4 → w'.cell? ⟨tb, j, none⟩ = w.cell? ⟨tb, j, none⟩) (hfz : ∀ j, w'.frozen? ⟨tb, j, none⟩ = w.frozen? ⟨tb, j, none⟩)
    (hc4 : w'.cell? ⟨tb, 4, none⟩ = some iv') (hir : w'.ownsRow lo 28 1 iv' items'.length items') (hib : iv'.ownBlock = iv.ownBlock ∨ ∃ g, iv'.ownBlock = some g ∧ w.heap.size ≤ g) (hlen : items'.length ≤ c) (hits : ∀ v ∈ items', ∃ l, StrsAt w 0 lo v l) :
    TQ w' lo tb c F (qTag tag w.heap.size) iv' items' := by
  obtain ⟨nd0, h0, h1⟩ := M.m.root
  have N0 := M.m.node _ _ h0
  have htag : ∀ g, g < w.heap.size → qTag tag w.heap.size g = tag g := fun g hg => if_pos hg
  have hold : ∀ k, k < w.heap.size → tag k ≠ (0, []) → tag k ≠ (3, []) → w'.heap[k]? = w.heap[k]? := fun k hk t0 t3 => hfr k hk (fun e => t0 (by rw [e, ← h1]; exact N0.tb)) (fun e => t3 (M.q.it k e))
  have hlo : ∀ k, k < lo → w'.heap[k]? = w.heap[k]? := fun k hk =>
    hfr k (by have := M.q.low; omega) (by have := N0.base; rw [h1] at this; omega) (fun e => by have := (M.q.ir.lt k e).1; omega)
  have hk3 : ∀ (i : Nat) (p : List ByteArray), i ≠ 3 → ((i, p) : Nat × List ByteArray) ≠ (3, []) := fun i p hi h => hi (by injection h)
  have hk0 : ∀ (i : Nat) (p : List ByteArray), i ≠ 0 → ((i, p) : Nat × List ByteArray) ≠ (0, []) := fun i p hi h => hi (by injection h)
  refine ⟨⟨M.m.root, fun p nd hp => ?_, M.m.up, M.m.cap⟩, ?_⟩
  · have N := M.m.node p nd hp
    have hkr := ownsRow_same N.kr fun g hg => hold g (N.kr.lt g hg).2 (by rw [N.kt g hg]; exact hk0 _ _ (by omega)) (by rw [N.kt g hg]; exact hk3 _ _ (by omega))
    have hdr := ownsRow_same N.dr fun g hg => hold g (N.dr.lt g hg).2 (by rw [N.dt g hg]; exact hk0 _ _ (by omega)) (by rw [N.dt g hg]; exact hk3 _ _ (by omega))
    have hc : ∀ j, j < 4 → w'.cell? ⟨nd.blk, j, none⟩ = w.cell? ⟨nd.blk, j, none⟩ ∧ w'.frozen? ⟨nd.blk, j, none⟩ = w.frozen? ⟨nd.blk, j, none⟩ := fun j hj => by
      by_cases e : nd.blk = tb
      · rw [e]; exact ⟨hcell j (by omega), hfz j⟩
      · have hb := hold nd.blk N.lt (by
          rw [N.tb]
          intro t
          have e2 : p = [] := by injection t
          subst e2
          rw [h0] at hp
          cases hp
          exact e h1) (by rw [N.tb]; exact hk3 _ _ (by omega))
        exact ⟨World.cell?_of_block (w := w) hb, World.frozen?_of_block (w := w) hb⟩
    exact ⟨by rw [(hc 0 (by omega)).1]; exact N.c0, by rw [(hc 1 (by omega)).1]; exact N.c1, by rw [(hc 2 (by omega)).1]; exact N.c2, by rw [(hc 3 (by omega)).1]; exact N.c3, fun j hj => by rw [(hc j hj).2]; exact N.fr j hj, N.base, Nat.lt_of_lt_of_le N.lt hsz,
      by rw [htag _ N.lt]; exact N.tb, hkr, fun g hg => by rw [htag _ (N.kr.lt g hg).2]; exact N.kt g hg, hdr, fun g hg => by rw [htag _ (N.dr.lt g hg).2]; exact N.dt g hg, N.asc, N.sz, N.len, N.kid⟩
  · refine ⟨hc4, by rw [hfz 4]; exact M.q.f4, by rw [hcell 5 (by omega)]; exact M.q.c5, hir, fun g hg => ?_, hlen, fun v hv => (hits v hv).imp fun l hl => strs_blocks hl hlo, Nat.le_trans M.q.low hsz⟩
    rcases hib with e | ⟨g', e, h3⟩
    · have hg' : iv.ownBlock = some g := by rw [← e]; exact hg
      rw [htag _ (M.q.ir.lt g hg').2]; exact M.q.it g hg'
    · have hgg : g' = g := by rw [hg] at e; injection e with e; exact e.symm
      subst hgg
      exact if_neg (by omega)

theorem TQ.root_lt {w : World} {lo tb c : Nat} {F : Tri} {tag : Tag} {iv : Value} {items : List Value} (M : TQ w lo tb c F tag iv items) : lo ≤ tb ∧ tb < w.heap.size ∧ iv.ownBlock ≠ some tb := by
  obtain ⟨nd0, h0, h1⟩ := M.m.root
  have N0 := M.m.node _ _ h0
  rw [← h1]
  exact ⟨N0.base, N0.lt, fun e => by have := M.q.it _ e; rw [N0.tb] at this; injection this with t _; cases t⟩

/-- Behind Push. -/
theorem TQ.push {w w1 : World} {lo tb c : Nat} {F : Tri} {tag : Tag} {iv : Value} {items : List Value} (M : TQ w lo tb c F tag iv items) {g cap : Nat} {x : Value} {o : Obj} (hx : ∃ l, StrsAt w 0 lo x l) (hlen : items.length + 1 ≤ c)
    (hir : w1.ownsRow lo 28 1 (.slice (some ⟨g, 0, none⟩) (items.length + 1) cap) (items.length + 1) (items ++ [x])) (hg : (w.alloc o).grownBy w1 iv.ownBlock) (hat : iv.ownBlock = some g ∨ g = (w.alloc o).heap.size) :
    TQ (w1.setCell ⟨tb, 4, none⟩ (.slice (some ⟨g, 0, none⟩) (items.length + 1) cap)) lo tb c F (qTag tag w.heap.size) (.slice (some ⟨g, 0, none⟩) (items.length + 1) cap) (items ++ [x]) ∧ Below lo w (w1.setCell ⟨tb, 4, none⟩ (.slice (some ⟨g, 0, none⟩) (items.length + 1) cap)) := by
  obtain ⟨ht1, ht2, ht3⟩ := M.root_lt
  have hs : w.heap.size + 1 ≤ w1.heap.size := by have := hg.size; simpa using this
  have hb : w1.heap[tb]? = w.heap[tb]? := by rw [hg.block tb (by simp; omega) (fun e => ht3 e.symm), Below.heap_alloc _ _ _ ht2]
  have hgt : g ≠ tb := fun e => by
    rcases hat with h | h
    · exact ht3 (by rw [h, e])
    · simp at h; omega
  have hlow := M.q.low
  refine ⟨M.qch (by simp [World.setCell]; omega) (fun k h1 h2 h3 => ?_) (fun j hj => ?_) (fun j => ?_) ?_ ?_ ?_ (by rw [List.length_append]; exact hlen) ?_, ?_⟩
  · rw [Below.heap_setCell _ _ _ _ h2, hg.block k (by simp; omega) (fun e => h3 e.symm), Below.heap_alloc _ _ _ h1]
  · rw [World.cell?_setCell_other _ _ _ _ (by intro h; injection h with _ h3 _; omega), World.cell?_of_block (w := w) hb]
  · rw [World.frozen?_setCell, World.frozen?_of_block (w := w) hb]
  · rw [World.cell?_setCell_same' _ _ _ (by rw [World.cell?_of_block (w := w) hb, M.q.c4]; rfl)]
  · rw [List.length_append]
    exact ownsRow_same hir fun g' hg' => Below.heap_setCell _ _ _ _ (fun e : g' = tb => hgt (by simp only [Value.ownBlock, Option.some.injEq] at hg'; rw [hg']; exact e))
  · rcases hat with h | h
    · exact .inl (by rw [h]; rfl)
    · exact .inr ⟨g, rfl, by simp at h; omega⟩
  · intro v hv
    rcases List.mem_append.1 hv with h | h
    · exact M.q.its v h
    · rw [List.mem_singleton.1 h]; exact hx
  · have b1 : Below lo w (w.alloc o) := (Below.refl _ _).alloc hlow o
    have b2 : Below lo w w1 := b1.grown hg (by simp; omega) (fun g' hg' => (M.q.ir.lt g' hg').1)
    exact b2.setCell (p := ⟨tb, 4, none⟩) ht1 _

/-- Two cells of a row of one's own written. -/
theorem row_set {w : World} {base : Nat} {e : TypeId} {g n cap : Nat} {xs : List Value} (h : w.ownsRow base e 1 (.slice (some ⟨g, 0, none⟩) n cap) n xs) (i : Nat) (u : Value) :
    (w.setCell ⟨g, i, none⟩ u).ownsRow base e 1 (.slice (some ⟨g, 0, none⟩) n cap) n (xs.set i u) := by
  obtain ⟨h1, h2⟩ := h
  rcases h2 with ⟨h2, _⟩ | ⟨g', cap', cur, h2, h3, h4, h5, h6, h7, h8⟩
  · cases h2
  · simp only [Value.slice.injEq, Option.some.injEq, Addr.mk.injEq, and_true, true_and] at h2
    obtain ⟨rfl, rfl⟩ := h2
    refine ⟨by rw [List.length_set]; exact h1, .inr ⟨g, cap, cur.setIfInBounds i u, rfl, h3, heap_setCell_same w g i cur e u h4, h5, h6, by rw [Array.size_setIfInBounds]; exact h7, ?_⟩⟩
    rw [Array.toList_setIfInBounds, List.take_set, h8]

theorem TQ.swap {w : World} {lo tb c : Nat} {F : Tri} {tag : Tag} {g cap n : Nat} {items : List Value} (M : TQ w lo tb c F tag (.slice (some ⟨g, 0, none⟩) n cap) items) (hn : items.length = n) {i j : Nat} {vi vj : Value} (hvi : vi ∈ items) (hvj : vj ∈ items) (m : Nat) :
    TQ (((w.setCell ⟨g, i, none⟩ vj).setCell ⟨g, j, none⟩ vi).drewN m) lo tb c F (qTag tag w.heap.size) (.slice (some ⟨g, 0, none⟩) n cap) ((items.set i vj).set j vi) ∧ Below lo w (((w.setCell ⟨g, i, none⟩ vj).setCell ⟨g, j, none⟩ vi).drewN m) := by
  subst hn
  obtain ⟨ht1, ht2, ht3⟩ := M.root_lt
  have hgt : tb ≠ g := fun e => ht3 (by rw [e]; rfl)
  have hgl := (M.q.ir.lt g rfl)
  have hb : ∀ k, k ≠ g → (((w.setCell ⟨g, i, none⟩ vj).setCell ⟨g, j, none⟩ vi).drewN m).heap[k]? = w.heap[k]? := fun k hk => by
    show ((w.setCell ⟨g, i, none⟩ vj).setCell ⟨g, j, none⟩ vi).heap[k]? = w.heap[k]?
    rw [Below.heap_setCell _ _ _ _ hk, Below.heap_setCell _ _ _ _ hk]
  refine ⟨M.qch (by show _ ≤ ((w.setCell ⟨g, i, none⟩ vj).setCell ⟨g, j, none⟩ vi).heap.size; simp [World.setCell]) (fun k _ _ h3 => hb k (fun e => h3 (by rw [e]; rfl))) (fun k _ => World.cell?_of_block (w := w) (hb tb hgt)) (fun k => World.frozen?_of_block (w := w) (hb tb hgt)) ?_ ?_ (.inl rfl) ?_ ?_, ?_⟩
  · rw [World.cell?_of_block (w := w) (hb tb hgt)]; exact M.q.c4
  · simp only [List.length_set]
    exact row_set (row_set M.q.ir i vj) j vi
  · simp only [List.length_set]; exact M.q.len
  · intro v hv
    rcases List.mem_or_eq_of_mem_set hv with h | h
    · rcases List.mem_or_eq_of_mem_set h with h2 | h2
      · exact M.q.its v h2
      · rw [h2]; exact M.q.its vj hvj
    · rw [h]; exact M.q.its vi hvi
  · exact below_drewN (((Below.refl _ _).setCell (p := ⟨g, i, none⟩) hgl.1 _).setCell (p := ⟨g, j, none⟩) hgl.1 _) m

theorem m_less (p : Option Addr) (w : World) : (Go.method 231 88 (.pointer p) "Less").run Tryd.prog w = .ok (103, .pointer p) w := by kernel_rfl
theorem m_swap (p : Option Addr) (w : World) : (Go.method 231 88 (.pointer p) "Swap").run Tryd.prog w = .ok (105, .pointer p) w := by kernel_rfl
theorem m_push (p : Option Addr) (w : World) : (Go.method 231 88 (.pointer p) "Push").run Tryd.prog w = .ok (104, .pointer p) w := by kernel_rfl
theorem m_len (p : Option Addr) (w : World) : (Go.method 231 88 (.pointer p) "Len").run Tryd.prog w = .ok (102, .pointer p) w := by kernel_rfl

/-- What the walk reads of an item. -/
theorem TQ.item {w : World} {lo tb c : Nat} {F : Tri} {tag : Tag} {g cap n : Nat} {items : List Value} (M : TQ w lo tb c F tag (.slice (some ⟨g, 0, none⟩) n cap) items) (hn : items.length = n) (i : Nat) (hi : i < n) :
    ∃ a l k, (.slice a l.length k) ∈ items ∧ w.cell? ⟨g, i, none⟩ = some (.slice a l.length k) ∧ w.frozen? ⟨g, i, none⟩ = false ∧ StrsAt w 0 lo (.slice a l.length k) l := by
  subst hn
  obtain ⟨l, hl⟩ := M.q.its _ (List.getElem_mem hi)
  obtain ⟨a, k, he, _⟩ := id hl
  have hc := M.q.ir.cellAt i (by omega)
  rw [List.getElem?_eq_getElem hi, he] at hc
  rw [he] at hl
  exact ⟨a, l, k, by rw [← he]; exact List.getElem_mem hi, hc, M.q.ir.frozenAt i, hl⟩

set_option maxHeartbeats 4000000 in
theorem up_any (w : World) (lo tb c : Nat) (F : Tri) (tag : Tag) (g cap n j0 : Nat) (items : List Value) (M : TQ w lo tb c F tag (.slice (some ⟨g, 0, none⟩) n cap) items) (hn : items.length = n) (hj0 : j0 < n) (hn2 : n ≤ 1000) :
    Calls Tryd.prog 72 #[.iface 88 (.pointer (some ⟨tb, 4, none⟩)), .int .i64 j0] w fun e w' => e = .returned (.tuple #[]) ∧ ∃ tag' items', TQ w' lo tb c F tag' (.slice (some ⟨g, 0, none⟩) n cap) items' ∧ items'.length = n ∧ Below lo w w' := by
  have HM := hide M
  clear M
  go_enter Tryd.func72, Tryd.ntmps72
  go_wp2_with fail
  go_loopw [1] (fun y wr => ∃ (j : Nat) (tag' : Tag) (items' : List Value), j < n ∧ y = .int .i64 j ∧ Hid (TQ wr lo tb c F tag' (.slice (some ⟨g, 0, none⟩) n cap) items' ∧ items'.length = n ∧ Below lo w wr)) (fun y _ => (intOf y).toNat)
  case atStart => exact ⟨j0, tag, items, hj0, rfl, HM.out, hn, Below.refl _ _⟩
  case round =>
    obtain ⟨j, tag', items', hj, rfl, HI⟩ := hrel
    clear HM
    by_cases hj00 : j = 0
    · subst hj00
      go_wp2_with fail
      go_end0
      exact ⟨rfl, tag', items', HI.out⟩
    · obtain ⟨k, rfl⟩ : ∃ k, j = k + 1 := ⟨j - 1, by omega⟩
      obtain ⟨aj, lj, kj, mj, cj, fj, sj⟩ := HI.out.1.item HI.out.2.1 (k + 1) hj
      obtain ⟨ai, li, ki, mi, ci, fi, si⟩ := HI.out.1.item HI.out.2.1 (k / 2) (by omega)
      obtain ⟨ht1, ht2, ht3⟩ := HI.out.1.root_lt
      have hgl := HI.out.1.q.ir.lt g rfl
      have HL := hide (qLess_any wr tb g (k + 1) (k / 2) n cap lo _ _ lj li HI.out.1.q.c4 HI.out.1.q.c5 hj (by omega) cj ci sj si ht2 hgl.2 HI.out.1.q.low)
      have hq : (k : Int).tdiv 2 = ((k / 2 : Nat) : Int) := by rw [Int.tdiv_eq_ediv_of_nonneg (by omega)]; rfl
      have hne : (((k / 2 : Nat) : Int) == ((k : Int) + 1)) = false := by rw [beq_eq_false_iff_ne]; omega
      have hkk : k / 2 < k + 1 := by omega
      have HMj := hide mj
      have HMi := hide mi
      generalize hdb : deepB lj li = db at HL
      clear hdb sj si mj mi
      generalize hK : k / 2 = kk at *
      clear hK
      have hmL := m_less (some ⟨tb, 4, none⟩)
      have hmS := m_swap (some ⟨tb, 4, none⟩)
      cases db with
      | false =>
        go_wp2_with fail
        refine HL.out.mono ?_
        rintro e w1 ⟨rfl, hB1⟩
        have HT : Hid (TQ w1 lo tb c F tag' (.slice (some ⟨g, 0, none⟩) n cap) items' ∧ items'.length = n ∧ Below lo w w1) := ⟨HI.out.1.below hB1, HI.out.2.1, HI.out.2.2.trans (hB1.mono HI.out.1.q.low)⟩
        clear hB1
        go_wp2_with fail
        go_end0
        exact ⟨rfl, tag', items', HT.out⟩
      | true =>
        go_wp2_with fail
        refine HL.out.mono ?_
        rintro e w1 ⟨rfl, hB1⟩
        have HT : Hid (TQ w1 lo tb c F tag' (.slice (some ⟨g, 0, none⟩) n cap) items' ∧ items'.length = n ∧ Below lo w w1) := ⟨HI.out.1.below hB1, HI.out.2.1, HI.out.2.2.trans (hB1.mono HI.out.1.q.low)⟩
        have dj : w1.cell? ⟨g, k + 1, none⟩ = some (.slice aj lj.length kj) := below_cell hB1 hgl.2 cj
        have di : w1.cell? ⟨g, kk, none⟩ = some (.slice ai li.length ki) := below_cell hB1 hgl.2 ci
        have gj : w1.frozen? ⟨g, k + 1, none⟩ = false := by rw [hB1.frozen (p := ⟨g, k + 1, none⟩) hgl.2]; exact fj
        have gi : w1.frozen? ⟨g, kk, none⟩ = false := by rw [hB1.frozen (p := ⟨g, kk, none⟩) hgl.2]; exact fi
        have HS := hide (qSwap_any w1 tb g kk (k + 1) n cap ai aj li.length lj.length ki kj HT.out.1.q.c4 (by omega) hj (by omega) di dj gi gj (fun e => HT.out.1.root_lt.2.2 (by rw [e]; rfl)))
        clear hB1 dj di gj gi ci cj fi fj HL HI
        go_wp2_with fail
        refine HS.out.mono ?_
        rintro e w2 ⟨rfl, m, rfl⟩
        have HQ := hide (HT.out.1.swap HT.out.2.1 (i := kk) (j := k + 1) HMi.out HMj.out m)
        have HL2 : Hid (((items'.set kk (.slice aj lj.length kj)).set (k + 1) (.slice ai li.length ki)).length = n) := by show _ = _; rw [List.length_set, List.length_set]; exact HT.out.2.1
        have HB2 := hide (HT.out.2.2.trans HQ.out.2)
        clear HS
        generalize ((w1.setCell ⟨g, kk, none⟩ (.slice aj lj.length kj)).setCell ⟨g, k + 1, none⟩ (.slice ai li.length ki)).drewN m = w3 at HQ HB2 ⊢
        go_wp2_with fail
        go_roundw
        case rel => exact ⟨kk, _, _, by omega, rfl, HQ.out.1, HL2.out, HB2.out⟩
        case measure => simp [intOf]; omega

set_option maxHeartbeats 2000000 in
theorem heapPush_any (w : World) (lo tb c : Nat) (F : Tri) (tag : Tag) (iv : Value) (items : List Value) (xa : Option Addr) (xc : Nat) (l : List ByteArray) (M : TQ w lo tb c F tag iv items) (hx : StrsAt w 0 lo (.slice xa l.length xc) l) (hlen : items.length + 1 ≤ c) :
    Calls Tryd.prog 61 #[.iface 88 (.pointer (some ⟨tb, 4, none⟩)), .iface 28 (.slice xa l.length xc)] w fun e w' => e = .returned (.tuple #[]) ∧ ∃ tag' iv' items', TQ w' lo tb c F tag' iv' items' ∧ items'.length = items.length + 1 ∧ Below lo w w' := by
  have hcap := M.m.cap
  have HP := hide (qPush_any w lo tb items.length iv items xa l.length xc M.q.c4 M.q.f4 M.q.ir M.root_lt.2.2 (by omega) M.q.low M.root_lt.2.1)
  have HM := hide M
  have HX := hide hx
  have hmP := m_push (some ⟨tb, 4, none⟩)
  have hmL := m_len (some ⟨tb, 4, none⟩)
  clear M hx
  go_enter Tryd.func61, Tryd.ntmps61
  go_wp2_with fail
  refine HP.out.mono ?_
  rintro e w1' ⟨rfl, g, cap, w1, o, rfl, hir, hg, hat⟩
  have HQ := hide (HM.out.push (x := .slice xa l.length xc) ⟨l, HX.out⟩ hlen hir hg hat)
  generalize w1.setCell ⟨tb, 4, none⟩ (.slice (some ⟨g, 0, none⟩) (items.length + 1) cap) = w2 at HQ ⊢
  have HL := hide (qLen_any w2 tb _ _ _ HQ.out.1.q.c4)
  have HU := hide (up_any w2 lo tb c F _ g cap (items.length + 1) items.length _ HQ.out.1 (by rw [List.length_append]; rfl) (by omega) (by omega))
  clear hir hg hat HP
  go_wp2_with fail
  refine HL.out.mono ?_
  rintro e w3 ⟨rfl, rfl⟩
  go_wp2_with fail
  refine HU.out.mono ?_
  rintro e w4 ⟨rfl, tag', items', hT, hn, hB⟩
  have HT : Hid (∃ tag' iv' items', TQ w4 lo tb c F tag' iv' items' ∧ items'.length = items.length + 1 ∧ Below lo w w4) := ⟨tag', _, items', hT, hn, HQ.out.2.trans hB⟩
  clear hT hn hB
  go_wp2_with fail
  go_end0
  exact ⟨rfl, HT.out⟩

set_option maxHeartbeats 1000000 in
theorem qPut_any (w : World) (lo tb c : Nat) (F : Tri) (tag : Tag) (iv : Value) (items : List Value) (xa : Option Addr) (xc : Nat) (l : List ByteArray) (M : TQ w lo tb c F tag iv items) (hx : StrsAt w 0 lo (.slice xa l.length xc) l) (hlen : items.length + 1 ≤ c) :
    Calls Tryd.prog 50 #[.pointer (some ⟨tb, 4, none⟩), .slice xa l.length xc] w fun e w' => e = .returned (.tuple #[]) ∧ ∃ tag' iv' items', TQ w' lo tb c F tag' iv' items' ∧ items'.length = items.length + 1 ∧ Below lo w w' := by
  have HP := hide (heapPush_any w lo tb c F tag iv items xa xc l M hx hlen)
  clear M hx
  go_enter Tryd.func50, Tryd.ntmps50
  go_wp2_with fail
  refine HP.out.mono ?_
  rintro e w1 ⟨rfl, hT⟩
  have HT := hide hT
  clear hT
  go_wp2_with fail
  go_end0
  exact ⟨rfl, HT.out⟩

end Go.Proofs.YtdonbgedhikocaaDoor
