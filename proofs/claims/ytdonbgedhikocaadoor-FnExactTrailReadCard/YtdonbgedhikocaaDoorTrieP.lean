/- The trie's put: places on the way, and what is put at the last; each new key behind all that are there. -/
import Derived.Test.YtdonbgedhikocaaDoorTrieU
import Derived.Test.YtdonbgedhikocaaDoorIns
import Derived.Deep.CutRange
namespace Go.Proofs.YtdonbgedhikocaaDoor
open Go.RowKit

/-- From the k-th place of the path on: few keys, none behind the path's. -/
def Last (F : Tri) (path : List ByteArray) (c k : Nat) : Prop := ∀ (j : Nat) (h : j < path.length), k ≤ j → ∀ nd, F (path.take j) = some nd → nd.keys.length ≤ c ∧ ∀ y ∈ nd.keys, y = path[j] ∨ Op.bytesLess y.toList path[j].toList = true

structure PutI (w wr : World) (lo tb c : Nat) (tag : Tag) (F : Tri) (path : List ByteArray) (iv : Value) (items : List Value) (k : Nat) (nd : Nod) (F' : Tri) (tag' : Tag) : Prop where
  at_ : F' (path.take k) = some nd
  tq : TQ wr lo tb (c + 1) F' tag' iv items
  below : Below lo w wr
  get : ∀ q, getF F' q = getF F q
  from_ : ∀ q, (F' q).isSome = true → (F q).isSome = true ∨ ∃ j, j ≤ k ∧ q = path.take j
  last : Last F' path c k
  frame : ∀ j, j < w.heap.size → (tag j).1 = 9 → wr.heap[j]? = w.heap[j]? ∧ (tag' j).1 = 9

theorem Last.mono {F : Tri} {path : List ByteArray} {c k k' : Nat} (h : Last F path c k) (hk : k ≤ k') : Last F path c k' := fun j hj h1 => h j hj (by omega)

theorem getF_ins {F : Tri} {p : List ByteArray} {x : ByteArray} {nd : Nod} {nb : Nat} {kv dv : Value} (hp : F p = some nd) (hx : F (p ++ [x]) = none) (q : List ByteArray) : getF (insF F p x nd nb kv dv) q = getF F q := by
  by_cases h1 : q = p ++ [x]
  · subst h1; rw [getF, insF_new, getF, hx]
  · by_cases h2 : q = p
    · subst h2; rw [getF, insF_at, getF, hp]
    · rw [getF, insF_else _ _ _ _ _ _ _ h1 h2, getF]

theorem PutI.pass {w wr : World} {lo tb c : Nat} {tag : Tag} {F : Tri} {path : List ByteArray} {iv : Value} {items : List Value} {k : Nat} {nd nd' : Nod} {F' : Tri} {tag' : Tag} (I : PutI w wr lo tb c tag F path iv items k nd F' tag') (h : F' (path.take (k + 1)) = some nd') :
    PutI w wr lo tb c tag F path iv items (k + 1) nd' F' tag' :=
  ⟨h, I.tq, I.below, I.get, fun q hq => (I.from_ q hq).imp id fun ⟨j, h1, h2⟩ => ⟨j, by omega, h2⟩, I.last.mono (by omega), I.frame⟩

theorem take_inj {path : List ByteArray} {i j : Nat} (hi : i ≤ path.length) (hj : j ≤ path.length) (h : path.take i = path.take j) : i = j := by
  have := congrArg List.length h
  rw [List.length_take, List.length_take] at this
  omega

theorem PutI.make {w wr w' : World} {lo tb c : Nat} {tag : Tag} {F : Tri} {path : List ByteArray} {iv : Value} {items : List Value} {k : Nat} {nd : Nod} {F' : Tri} {tag' : Tag} (I : PutI w wr lo tb c tag F path iv items k nd F' tag') (hk : k < path.length)
    (hno : hasB nd.keys path[k] = false) (hs : path[k].size ≤ maxLen) {o1 o2 o3 : Obj} {w2 w6 : World} {kv' dv' : Value} {ty : TypeId} (ho2 : o2 = .cells #[.bool false, .bool false, .slice none 0 0, .slice none 0 0] ty)
    (hkr : w2.ownsRow lo 9 1 kv' (nd.keys.length + 1) (nd.keys.map .string ++ [.string path[k]])) (hg1 : (wr.alloc o1).grownBy w2 nd.kv.ownBlock) (hk1 : kv'.ownBlock = nd.kv.ownBlock ∨ kv'.ownBlock = some (wr.alloc o1).heap.size)
    (hdr : w6.ownsRow lo 81 1 dv' (nd.keys.length + 1) (kidVals F' (path.take k) nd.keys ++ [.pointer (some ⟨w2.heap.size, 0, none⟩)])) (hg2 : (((w2.setCell ⟨nd.blk, 2, none⟩ kv').alloc o2).alloc o3).grownBy w6 nd.dv.ownBlock)
    (hd1 : dv'.ownBlock = nd.dv.ownBlock ∨ dv'.ownBlock = some (((w2.setCell ⟨nd.blk, 2, none⟩ kv').alloc o2).alloc o3).heap.size) (hw' : w' = w6.setCell ⟨nd.blk, 3, none⟩ dv') :
    ∃ nd' F2 tag2, nd'.blk = w2.heap.size ∧ PutI w w' lo tb c tag F path iv items (k + 1) nd' F2 tag2 := by
  have N := I.tq.m.node _ _ I.at_
  have hx : F' (path.take k ++ [path[k]]) = none := by
    cases h : F' (path.take k ++ [path[k]]) with
    | none => rfl
    | some n2 =>
      obtain ⟨n3, h3, h4⟩ := I.tq.m.up _ _ (by rw [h]; rfl)
      rw [I.at_] at h3
      cases h3
      obtain ⟨q, hq, e⟩ := List.getElem_of_mem h4
      rw [hasB_yes hq e] at hno
      cases hno
  have hlt := I.last k hk (Nat.le_refl _) nd I.at_
  have hbl : ∀ y ∈ nd.keys, Op.bytesLess y.toList path[k].toList = true := fun y hy => by
    rcases hlt.2 y hy with e | h
    · obtain ⟨q, hq, e2⟩ := List.getElem_of_mem hy
      rw [hasB_yes hq (e2.trans e)] at hno
      cases hno
    · exact h
  have hNb := N.lt
  have hs1 : wr.heap.size + 1 ≤ w2.heap.size := by have := hg1.size; simpa using this
  have hs2 : w2.heap.size + 2 ≤ w6.heap.size := by have := hg2.size; simp [World.setCell] at this; omega
  have hbk : nd.kv.ownBlock ≠ some nd.blk := fun e => by have := N.kt _ e; rw [N.tb] at this; injection this with h _; cases h
  have hbd : nd.dv.ownBlock ≠ some nd.blk := fun e => by have := N.dt _ e; rw [N.tb] at this; injection this with h _; cases h
  have hkd : ∀ g, nd.kv.ownBlock = some g → nd.dv.ownBlock ≠ some g := fun g h1 h2 => by have h3 := N.kt g h1; rw [N.dt g h2] at h3; injection h3 with h _; cases h
  -- blocks of w2 that are in w'
  have hA : ∀ j, j < w2.heap.size → j ≠ nd.blk → nd.dv.ownBlock ≠ some j → w'.heap[j]? = w2.heap[j]? := fun j h1 h2 h3 => by
    rw [hw', Below.heap_setCell _ _ _ _ h2, hg2.block j (by simp [World.setCell]; omega) (fun e => h3 e.symm), Below.heap_alloc _ _ _ (by simp [World.setCell]; omega), Below.heap_alloc _ _ _ (by simp [World.setCell]; omega), Below.heap_setCell _ _ _ _ h2]
  have hB : ∀ j, j < wr.heap.size → nd.kv.ownBlock ≠ some j → w2.heap[j]? = wr.heap[j]? := fun j h1 h2 => by
    rw [hg1.block j (by simp; omega) (fun e => h2 e.symm), Below.heap_alloc _ _ _ h1]
  have hb2 : w2.heap[nd.blk]? = wr.heap[nd.blk]? := hB _ hNb hbk
  have hb6 : w6.heap[nd.blk]? = (w2.setCell ⟨nd.blk, 2, none⟩ kv').heap[nd.blk]? := by
    rw [hg2.block nd.blk (by simp [World.setCell]; omega) (fun e => hbd e.symm), Below.heap_alloc _ _ _ (by simp [World.setCell]; omega), Below.heap_alloc _ _ _ (by simp [World.setCell]; omega)]
  have hsz' : w'.heap.size = w6.heap.size := by rw [hw']; simp [World.setCell]
  have hnew : Blk w' w2.heap.size #[.bool false, .bool false, .slice none 0 0, .slice none 0 0] ty := by
    unfold Blk
    rw [hw', Below.heap_setCell _ _ _ _ (by show w2.heap.size ≠ nd.blk; omega), hg2.block _ (by simp [World.setCell]; omega) (fun e => by have := (N.dr.lt _ e.symm).2; omega), Below.heap_alloc _ _ _ (by simp [World.setCell])]
    have : Blk ((w2.setCell ⟨nd.blk, 2, none⟩ kv').alloc o2) w2.heap.size #[.bool false, .bool false, .slice none 0 0, .slice none 0 0] ty := by rw [ho2]; exact Blk.atn (by simp [World.setCell])
    exact this
  have hdlt : ∀ g, dv'.ownBlock = some g → g < w6.heap.size := fun g hg => (hdr.lt g hg).2
  have hklt : ∀ g, kv'.ownBlock = some g → g < w2.heap.size := fun g hg => (hkr.lt g hg).2
  have hkb : kv'.ownBlock = nd.kv.ownBlock ∨ ∃ g, kv'.ownBlock = some g ∧ wr.heap.size ≤ g ∧ g ≠ w2.heap.size := by
    rcases hk1 with h | h
    · exact .inl h
    · exact .inr ⟨_, h, by simp, by have := hklt _ h; omega⟩
  have hknb : kv'.ownBlock ≠ some nd.blk := fun e => by
    rcases hkb with h | ⟨g, h, h2, _⟩
    · exact hbk (h ▸ e)
    · rw [e] at h; injection h with h; omega
  have hkdv : ∀ g, kv'.ownBlock = some g → nd.dv.ownBlock ≠ some g := fun g h1 h2 => by
    rcases hkb with h | ⟨g', h, h3, _⟩
    · exact hkd g (h ▸ h1) h2
    · rw [h1] at h; injection h with h; have := (N.dr.lt g h2).2; omega
  have hdnb : dv'.ownBlock ≠ some nd.blk := fun e => by
    rcases hd1 with h | h
    · exact hbd (h ▸ e)
    · rw [e] at h; injection h with h; simp [World.setCell] at h; omega
  refine ⟨⟨w2.heap.size, false, false, [], .slice none 0 0, .slice none 0 0⟩, insF F' (path.take k) path[k] nd w2.heap.size kv' dv', insTag tag' wr.heap.size w2.heap.size kv' (path.take k) path[k], rfl, ?_, ?_, ?_, ?_, ?_, ?_, ?_⟩
  · rw [take_snocL path k hk]; exact insF_new ..
  · refine I.tq.ins I.at_ hx hbl hs (by have := hlt.1; omega) (by omega) (fun j h1 h2 h3 h4 => ?_) (fun j h1 h2 => ?_) (fun j => ?_) ?_ ?_ (by omega) hnew ?_ ?_ hkb ?_
    · rw [hA j (by omega) h2 h4, hB j h1 h3]
    · rw [hw', World.cell?_setCell_other _ _ _ _ (by intro h; injection h with _ h3 _; omega), World.cell?_of_block (w := w2.setCell ⟨nd.blk, 2, none⟩ kv') hb6, World.cell?_setCell_other _ _ _ _ (by intro h; injection h with _ h3 _; omega), World.cell?_of_block (w := wr) hb2]
    · rw [hw', World.frozen?_setCell, World.frozen?_of_block (w := w2.setCell ⟨nd.blk, 2, none⟩ kv') hb6, World.frozen?_setCell, World.frozen?_of_block (w := wr) hb2]
    · rw [hw', World.cell?_setCell_other _ _ _ _ (by intro h; injection h with _ h3 _; omega), World.cell?_of_block (w := w2.setCell ⟨nd.blk, 2, none⟩ kv') hb6, World.cell?_setCell_same' _ _ _ (by rw [World.cell?_of_block (w := wr) hb2, N.c2]; rfl)]
    · rw [hw', World.cell?_setCell_same' _ _ _ (by rw [World.cell?_of_block (w := w2.setCell ⟨nd.blk, 2, none⟩ kv') hb6, World.cell?_setCell_other _ _ _ _ (by intro h; injection h with _ h3 _; omega), World.cell?_of_block (w := wr) hb2, N.c3]; rfl)]
    · exact ownsRow_same hkr fun g hg => hA g (hklt g hg) (fun e => hknb (e ▸ hg)) (hkdv g hg)
    · exact ownsRow_same hdr fun g hg => by rw [hw']; exact Below.heap_setCell _ _ _ _ (fun e : g = nd.blk => hdnb (by rw [← e]; exact hg))
    · rcases hd1 with h | h
      · exact .inl h
      · refine .inr ⟨_, h, by simp [World.setCell]; omega, by simp [World.setCell]; omega, fun e => ?_⟩
        have := hklt _ e
        simp [World.setCell] at this
        omega
  · have hlo : lo ≤ wr.heap.size := I.tq.q.low
    have b1 : Below lo w (wr.alloc o1) := I.below.alloc hlo o1
    have b2 : Below lo w w2 := b1.grown hg1 (by simp; omega) (fun g hg => (N.kr.lt g hg).1)
    have b3 : Below lo w (w2.setCell ⟨nd.blk, 2, none⟩ kv') := b2.setCell (p := ⟨nd.blk, 2, none⟩) N.base _
    have b4 : Below lo w (((w2.setCell ⟨nd.blk, 2, none⟩ kv').alloc o2).alloc o3) := (b3.alloc (by simp [World.setCell]; omega) o2).alloc (by simp [World.setCell]; omega) o3
    have b5 : Below lo w w6 := b4.grown hg2 (by simp [World.setCell]; omega) (fun g hg => (N.dr.lt g hg).1)
    rw [hw']
    exact b5.setCell (p := ⟨nd.blk, 3, none⟩) N.base _
  · intro q; rw [getF_ins I.at_ hx, I.get]
  · intro q hq
    by_cases h1 : q = path.take k ++ [path[k]]
    · exact .inr ⟨k + 1, Nat.le_refl _, by rw [h1, take_snocL path k hk]⟩
    · by_cases h2 : q = path.take k
      · exact .inr ⟨k, by omega, h2⟩
      · rw [insF_else _ _ _ _ _ _ _ h1 h2] at hq
        exact (I.from_ q hq).imp id fun ⟨j, h3, h4⟩ => ⟨j, by omega, h4⟩
  · intro j hj h1 n2 hn2
    by_cases h2 : j = k + 1
    · subst h2
      rw [take_snocL path k hk, insF_new] at hn2
      cases hn2
      exact ⟨Nat.zero_le _, fun y h => by cases h⟩
    · rw [insF_else _ _ _ _ _ _ _ (fun e => by rw [← take_snocL path k hk] at e; have := take_inj (by omega) (by omega) e; omega) (fun e => by have := take_inj (by omega) (by omega) e; omega)] at hn2
      exact I.last j hj (by omega) n2 hn2
  · intro j hj ht
    have hsz := I.below.size
    obtain ⟨h1, h2⟩ := I.frame j hj ht
    have n0 : j ≠ nd.blk := fun e => by rw [e, N.tb] at h2; cases h2
    have n1 : nd.kv.ownBlock ≠ some j := fun e => by rw [N.kt j e] at h2; cases h2
    have n2 : nd.dv.ownBlock ≠ some j := fun e => by rw [N.dt j e] at h2; cases h2
    exact ⟨by rw [hA j (by omega) n0 n2, hB j (by omega) n1]; exact h1, by rw [insTag, if_pos (by omega)]; exact h2⟩


set_option maxHeartbeats 4000000 in
set_option maxRecDepth 100000 in
theorem put_any (path : List ByteArray) (vp : Value) (v : Bool) (w : World) (lo tb c : Nat) (F : Tri) (tag : Tag) (iv : Value) (items : List Value) (M : TQ w lo tb c F tag iv items) (hp : StrsAt w 0 lo vp path) (hc : c + 1 ≤ 1000) (hlast : Last F path c 0) :
    Calls Tryd.prog 49 #[.pointer (some ⟨tb, 0, none⟩), vp, .bool v] w fun e w' => e = .returned (.tuple #[]) ∧ ∃ F' tag', TQ w' lo tb (c + 1) F' tag' iv items ∧ Below lo w w' ∧
      getF F' path = (v, true) ∧ (∀ q, q ≠ path → getF F' q = getF F q) ∧ (∀ q, (F' q).isSome = true → (F q).isSome = true ∨ ∃ j, q = path.take j) ∧ (∀ j, j < w.heap.size → (tag j).1 = 9 → w'.heap[j]? = w.heap[j]?) := by
  obtain ⟨pa, pc, rfl, hpl, hsz, hpcell⟩ := hp
  unfold maxLen at hpl
  have HSz := hide hsz
  clear hsz
  have HP : Hid (∀ (k : Nat) (h : k < path.length), ∃ b o, pa = some ⟨b, o, none⟩ ∧ ∀ W, Below lo w W → W.cell? ⟨b, o + k, none⟩ = some (.string path[k])) := fun k h => by
    obtain ⟨b, o, ha, _, hb, hcell⟩ := hpcell (by omega)
    exact ⟨b, o, ha, fun W hW => by rw [hW.cell (p := ⟨b, o + k, none⟩) hb]; exact hcell k h⟩
  clear hpcell
  obtain ⟨nd0, hnd0, hb0⟩ := M.m.root
  have HI : Hid (PutI w w lo tb c tag F path iv items 0 nd0 F tag) := ⟨hnd0, M.mono (by omega) hc, Below.refl _ _, fun _ => rfl, fun q h => .inl h, hlast, fun j _ h => ⟨rfl, h⟩⟩
  clear M hlast hnd0
  go_enter Tryd.func49, Tryd.ntmps49
  go_wp2_with fail
  go_loopw [0, 12] (fun n i wr => ∃ (k : Nat) (nd : Nod) (F' : Tri) (tag' : Tag), k ≤ path.length ∧ i = .int .i64 k ∧ n = .pointer (some ⟨nd.blk, 0, none⟩) ∧ Hid (PutI w wr lo tb c tag F path iv items k nd F' tag')) (fun _ i _ => path.length - (intOf i).toNat)
  case atStart => exact ⟨0, nd0, F, tag, Nat.zero_le _, rfl, by rw [hb0], HI⟩
  case round =>
    obtain ⟨k, nd, F', tag', hk, rfl, rfl, HI'⟩ := hrel
    clear HI hb0
    have HN := hide (HI'.out.tq.m.node _ _ HI'.out.at_)
    by_cases hlt : k < path.length
    · obtain ⟨b, o, rfl, hcell⟩ := HP.out k hlt
      have hck := hcell wr HI'.out.below
      have hltI : (k : Int) < (path.length : Int) := by omega
      clear hcell
      have c2 := HN.out.c2
      have hlen : nd.keys.length ≤ c := (HI'.out.last k hlt (Nat.le_refl _) nd HI'.out.at_).1
      have HS := hide (search_any nd.keys HN.out.asc nd.kv path[k] wr lo wr.heap.size (strs_of_row HN.out.kr (by unfold maxLen; omega) HN.out.sz) (by omega))
      cases hh : hasB nd.keys path[k] with
      | true =>
        rw [hh] at HS
        have c3 := HN.out.c3
        go_wp2_with fail
        refine HS.out.mono ?_
        rintro e w1 ⟨pos, rfl, hf, rfl⟩
        obtain ⟨hpos, hkey⟩ := hf.yes hh
        obtain ⟨g, cap, hdv, _, _⟩ := ownsRow_at HN.out.dr (by omega)
        have HMem : Hid (path[k] ∈ nd.keys) := by rw [← hkey]; exact List.getElem_mem hpos
        obtain ⟨nd', HF'⟩ : ∃ nd', Hid (F' (path.take (k + 1)) = some nd') := by
          have := HN.out.kid _ HMem.out
          rw [← take_snocL path k hlt] at this
          exact Option.isSome_iff_exists.1 this
        have hcd : w1.cell? ⟨g, pos, none⟩ = some (.pointer (some ⟨nd'.blk, 0, none⟩)) := by
          have h1 := HN.out.dr
          rw [hdv] at h1
          rw [h1.cellAt pos (by omega), kidVals, List.getElem?_map, List.getElem?_eq_getElem hpos, Option.map_some, hkey, ← take_snocL path k hlt, blkOf_some HF'.out]
        rw [hdv] at c3
        have hposI : (pos : Int) < (nd.keys.length : Int) := by omega
        clear hf hkey hdv hh HS
        go_wp2_with fail
        go_roundw
        case rel => exact ⟨k + 1, nd', F', tag', by omega, by go_num, rfl, HI'.out.pass HF'.out⟩
        case measure => simp [intOf]; omega
      | false =>
        rw [hh] at HS
        go_wp2_with fail
        refine HS.out.mono ?_
        rintro e w1 ⟨pos, rfl, hf, rfl⟩
        have hpe : pos = nd.keys.length := by
          have h1 := hf.le
          rcases Nat.lt_or_ge pos nd.keys.length with h2 | h2
          · have h3 := hf.high pos h2 (Nat.le_refl _)
            rcases (HI'.out.last k hlt (Nat.le_refl _) nd HI'.out.at_).2 _ (List.getElem_mem h2) with h4 | h4
            · exact absurd h4 (hf.no hh pos h2)
            · rw [h4] at h3; cases h3
          · omega
        subst hpe
        clear hf HS
        have HC1 := hide (insS_end path[k] nd.kv nd.keys.length _ w1.heap.size (w1.alloc (.cells #[.string path[k]] 9)) lo (HN.out.kr.alloc _) (by have := HI'.out.tq.q.low; simp; omega) (by omega) ((Blk.new w1 #[.string path[k]] 9).cell 0 _ rfl))
        have c3 := HN.out.c3
        have f2 := HN.out.fr 2 (by omega)
        have f3 := HN.out.fr 3 (by omega)
        have hkb : nd.kv.ownBlock ≠ some nd.blk := fun e => by have := HN.out.kt _ e; rw [HN.out.tb] at this; injection this with h _; cases h
        have hdb : nd.dv.ownBlock ≠ some nd.blk := fun e => by have := HN.out.dt _ e; rw [HN.out.tb] at this; injection this with h _; cases h
        have HNe := hide hkb
        have HNd := hide hdb
        clear hkb hdb
        go_wp2_with fail
        refine HC1.out.mono ?_
        rintro e w2 ⟨kv', rfl, hkr, hg1, hk1⟩
        obtain ⟨ka, kc, rfl⟩ := ownsRow_form hkr
        have HKr := hide hkr
        have HG1 := hide hg1
        have HK1 := hide hk1
        have hb2 : w2.heap[nd.blk]? = w1.heap[nd.blk]? := by
          rw [hg1.block nd.blk (by have := HN.out.lt; simp; omega) (fun e => HNe.out e.symm), Below.heap_alloc _ _ _ HN.out.lt]
        have d2 : w2.cell? ⟨nd.blk, 2, none⟩ = some nd.kv := by rw [World.cell?_of_block (w := w1) hb2]; exact c2
        have d3 : w2.cell? ⟨nd.blk, 3, none⟩ = some nd.dv := by rw [World.cell?_of_block (w := w1) hb2]; exact c3
        have g2 : w2.frozen? ⟨nd.blk, 2, none⟩ = false := by rw [World.frozen?_of_block (w := w1) hb2]; exact f2
        have HZ : Hid (nd.blk < w2.heap.size ∧ lo ≤ w2.heap.size ∧ w1.heap.size < w2.heap.size) := by
          have h1 := hg1.size
          have h2 := HN.out.lt
          have h3 := HI'.out.tq.q.low
          simp at h1
          exact ⟨by omega, by omega, by omega⟩
        have HB2 := hide hb2
        clear hkr hg1 hk1 HC1 c2 c3 f2 hb2
        go_wp2_with fail
        generalize hW5 : ((w2.setCell ⟨nd.blk, 2, none⟩ (.slice ka (nd.keys.length + 1) kc)).alloc (Obj.cells #[.bool false, .bool false, .slice none 0 0, .slice none 0 0] 62)).alloc (Obj.cells #[.pointer (some ⟨w2.heap.size, 0, none⟩)] 81) = W5
        have hz5 : W5.heap.size = w2.heap.size + 2 := by rw [← hW5]; simp [World.setCell]
        have hd5 : W5.ownsRow lo 81 1 nd.dv nd.keys.length (kidVals F' (path.take k) nd.keys) := by
          refine ownsRow_same HN.out.dr fun g hg => ?_
          have hgl := (HN.out.dr.lt g hg).2
          rw [← hW5, Below.heap_alloc _ _ _ (by simp [World.setCell]; have := HZ.out.2.2; omega), Below.heap_alloc _ _ _ (by simp [World.setCell]; have := HZ.out.2.2; omega), Below.heap_setCell _ _ _ _ (fun e : g = nd.blk => HNd.out (by rw [← e]; exact hg)),
            HG1.out.block g (by simp; omega) (fun e => by have h1 := HN.out.kt g e.symm; rw [HN.out.dt g hg] at h1; injection h1 with h1 _; cases h1), Below.heap_alloc _ _ _ hgl]
        have hp5 : W5.cell? ⟨w2.heap.size + 1, 0, none⟩ = some (.pointer (some ⟨w2.heap.size, 0, none⟩)) := by
          rw [← hW5]
          exact (Blk.atn (A := #[.pointer (some ⟨w2.heap.size, 0, none⟩)]) (by simp [World.setCell])).cell 0 _ rfl
        have HC2 := hide (insN_end (some ⟨w2.heap.size, 0, none⟩) nd.dv nd.keys.length _ (w2.heap.size + 1) W5 lo hd5 (by have := HZ.out.2.1; omega) (by omega) hp5)
        have HW5 := hide hW5
        have HZ5 := hide hz5
        clear hW5 hd5 hp5 hz5
        refine HC2.out.mono ?_
        rintro e w6 ⟨dv', rfl, hdr, hg2, hd1⟩
        obtain ⟨da, dc, rfl⟩ := ownsRow_form hdr
        have hb6 : w6.heap[nd.blk]? = (w2.setCell ⟨nd.blk, 2, none⟩ (.slice ka (nd.keys.length + 1) kc)).heap[nd.blk]? := by
          have h1 := HZ.out.1
          rw [hg2.block nd.blk (by rw [HZ5.out]; omega) (fun e => HNd.out e.symm), ← HW5.out, Below.heap_alloc _ _ _ (by simp [World.setCell]; omega), Below.heap_alloc _ _ _ (by simp [World.setCell]; omega)]
        have e3 : w6.cell? ⟨nd.blk, 3, none⟩ = some nd.dv := by
          rw [World.cell?_of_block (w := w2.setCell ⟨nd.blk, 2, none⟩ (.slice ka (nd.keys.length + 1) kc)) hb6, World.cell?_setCell_other _ _ _ _ (by intro h; injection h with _ h3 _; omega)]
          exact d3
        have g3 : w6.frozen? ⟨nd.blk, 3, none⟩ = false := by
          rw [World.frozen?_of_block (w := w2.setCell ⟨nd.blk, 2, none⟩ (.slice ka (nd.keys.length + 1) kc)) hb6, World.frozen?_setCell, World.frozen?_of_block (w := w1) HB2.out]
          exact f3
        have hd1' : (Value.slice da (nd.keys.length + 1) dc).ownBlock = nd.dv.ownBlock ∨ (Value.slice da (nd.keys.length + 1) dc).ownBlock = some (((w2.setCell ⟨nd.blk, 2, none⟩ (.slice ka (nd.keys.length + 1) kc)).alloc (Obj.cells #[.bool false, .bool false, .slice none 0 0, .slice none 0 0] 62)).alloc (Obj.cells #[.pointer (some ⟨w2.heap.size, 0, none⟩)] 81)).heap.size := by
          rw [HW5.out]; exact hd1
        rw [← HW5.out] at hg2
        obtain ⟨nd', F2, tag2, hblk, hI2⟩ := HI'.out.make hlt hh (HSz.out k hlt) rfl HKr.out HG1.out HK1.out hdr hg2 hd1' rfl
        have HI2 := hide hI2
        obtain ⟨g, cap', hda, _, _⟩ := ownsRow_at hdr (by omega)
        simp only [Value.slice.injEq, true_and] at hda
        obtain ⟨rfl, rfl⟩ := hda
        have hgb : g ≠ nd.blk := fun e => by
          rcases hd1 with h | h
          · exact HNd.out (by rw [← h, e]; rfl)
          · simp only [Value.ownBlock, Option.some.injEq] at h
            have := HZ.out.1
            rw [HZ5.out] at h
            omega
        have e4 : (w6.setCell ⟨nd.blk, 3, none⟩ (.slice (some ⟨g, 0, none⟩) (nd.keys.length + 1) dc)).cell? ⟨g, nd.keys.length, none⟩ = some (.pointer (some ⟨nd'.blk, 0, none⟩)) := by
          rw [World.cell?_setCell_other _ _ _ _ (by intro h; injection h with h1 _ _; exact hgb h1.symm), hdr.cellAt _ (by omega), List.getElem?_append_right (by simp [kidVals]), hblk]
          simp [kidVals]
        clear hI2 hg2 hd1 hd1' hb6 HC2 HW5 HB2 HK1 HG1 HKr d2 d3 g2 hdr hblk
        go_wp2_with fail
        go_roundw
        case rel => exact ⟨k + 1, nd', F2, tag2, by omega, by go_num, rfl, HI2⟩
        case measure => simp [intOf]; omega
    · have HE : Hid (F' path = some nd) := by
        have h := HI'.out.at_
        rw [List.take_of_length_le (by omega)] at h
        exact h
      have f0 := HN.out.fr 0 (by omega)
      have f1 := HN.out.fr 1 (by omega)
      have c0 := HN.out.c0
      have c1 := HN.out.c1
      have HR : Hid (∃ F2 tag2, TQ ((wr.setCell ⟨nd.blk, 0, none⟩ (.bool true)).setCell ⟨nd.blk, 1, none⟩ (.bool v)) lo tb (c + 1) F2 tag2 iv items ∧ Below lo w ((wr.setCell ⟨nd.blk, 0, none⟩ (.bool true)).setCell ⟨nd.blk, 1, none⟩ (.bool v)) ∧
          getF F2 path = (v, true) ∧ (∀ q, q ≠ path → getF F2 q = getF F q) ∧ (∀ q, (F2 q).isSome = true → (F q).isSome = true ∨ ∃ j, q = path.take j) ∧ (∀ j, j < w.heap.size → (tag j).1 = 9 → ((wr.setCell ⟨nd.blk, 0, none⟩ (.bool true)).setCell ⟨nd.blk, 1, none⟩ (.bool v)).heap[j]? = w.heap[j]?)) := by
        refine ⟨putF F' path nd v, tag', HI'.out.tq.put HE.out v, (HI'.out.below.setCell (p := ⟨nd.blk, 0, none⟩) HN.out.base _).setCell (p := ⟨nd.blk, 1, none⟩) HN.out.base _, ?_, fun q hq => ?_, fun q hq => ?_, fun j hj ht => ?_⟩
        · rw [getF, putF_at]
        · rw [getF, putF_else _ _ _ _ hq, ← HI'.out.get q, getF]
        · rw [putF_some HE.out] at hq
          exact (HI'.out.from_ q hq).imp id fun ⟨j, _, h⟩ => ⟨j, h⟩
        · obtain ⟨h1, h2⟩ := HI'.out.frame j hj ht
          have n0 : j ≠ nd.blk := fun e => by rw [e, HN.out.tb] at h2; cases h2
          rw [Below.heap_setCell _ _ _ _ n0, Below.heap_setCell _ _ _ _ n0]
          exact h1
      clear HN HI' HP HSz HE
      go_wp2_with fail
      go_end0
      exact ⟨rfl, HR.out⟩

end Go.Proofs.YtdonbgedhikocaaDoor
