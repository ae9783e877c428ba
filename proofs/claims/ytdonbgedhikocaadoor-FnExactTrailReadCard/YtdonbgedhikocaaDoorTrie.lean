/- The program's trie of marks: how it lies in memory; what its readers answer. -/
import Derived.Test.YtdonbgedhikocaaDoorPth
import Derived.Test.YtdonbgedhikocaaDoorQt
namespace Go.Proofs.YtdonbgedhikocaaDoor
open Go.RowKit

/-- A place of a trie: its block, what stands there, its keys, its two slices. -/
structure Nod where
  blk : Nat
  has : Bool
  val : Bool
  keys : List ByteArray
  kv : Value
  dv : Value
/-- The places of a trie by their paths. -/
abbrev Tri := List ByteArray → Option Nod
/-- What a block is of: 0 a place, 1 its keys, 2 its kids, 3 the queue's items; and the path of the place. -/
abbrev Tag := Nat → Nat × List ByteArray
def blkOf (F : Tri) (p : List ByteArray) : Nat := ((F p).map Nod.blk).getD 0
theorem blkOf_some {F : Tri} {p : List ByteArray} {nd : Nod} (h : F p = some nd) : blkOf F p = nd.blk := by rw [blkOf, h]; rfl
def kidVals (F : Tri) (p : List ByteArray) (keys : List ByteArray) : List Value := keys.map fun x => .pointer (some ⟨blkOf F (p ++ [x]), 0, none⟩)

structure NodeAt (w : World) (lo c : Nat) (F : Tri) (tag : Tag) (p : List ByteArray) (nd : Nod) : Prop where
  c0 : w.cell? ⟨nd.blk, 0, none⟩ = some (.bool nd.has)
  c1 : w.cell? ⟨nd.blk, 1, none⟩ = some (.bool nd.val)
  c2 : w.cell? ⟨nd.blk, 2, none⟩ = some nd.kv
  c3 : w.cell? ⟨nd.blk, 3, none⟩ = some nd.dv
  fr : ∀ j, j < 4 → w.frozen? ⟨nd.blk, j, none⟩ = false
  base : lo ≤ nd.blk
  lt : nd.blk < w.heap.size
  tb : tag nd.blk = (0, p)
  kr : w.ownsRow lo 9 1 nd.kv nd.keys.length (nd.keys.map .string)
  kt : ∀ g, nd.kv.ownBlock = some g → tag g = (1, p)
  dr : w.ownsRow lo 81 1 nd.dv nd.keys.length (kidVals F p nd.keys)
  dt : ∀ g, nd.dv.ownBlock = some g → tag g = (2, p)
  asc : Asc nd.keys
  sz : ∀ x ∈ nd.keys, x.size ≤ maxLen
  len : nd.keys.length ≤ c
  kid : ∀ x ∈ nd.keys, (F (p ++ [x])).isSome = true

/-- The trie in memory, its root in block tb. -/
structure TM (w : World) (lo tb c : Nat) (F : Tri) (tag : Tag) : Prop where
  root : ∃ nd, F [] = some nd ∧ nd.blk = tb
  node : ∀ p nd, F p = some nd → NodeAt w lo c F tag p nd
  up : ∀ p x, (F (p ++ [x])).isSome = true → ∃ nd, F p = some nd ∧ x ∈ nd.keys
  cap : c ≤ 1000

/-- The queue of the trail in memory. -/
structure QM (w : World) (lo tb c : Nat) (tag : Tag) (iv : Value) (items : List Value) : Prop where
  c4 : w.cell? ⟨tb, 4, none⟩ = some iv
  f4 : w.frozen? ⟨tb, 4, none⟩ = false
  c5 : w.cell? ⟨tb, 5, none⟩ = some (.func (.func 33) #[] #[])
  ir : w.ownsRow lo 28 1 iv items.length items
  it : ∀ g, iv.ownBlock = some g → tag g = (3, [])
  len : items.length ≤ c
  its : ∀ v ∈ items, ∃ l, StrsAt w 0 lo v l
  low : lo ≤ w.heap.size

theorem take_snocL (l : List ByteArray) (k : Nat) (h : k < l.length) : l.take (k + 1) = l.take k ++ [l[k]] := List.take_succ_eq_append_getElem h

/-- Where nothing is at a beginning of a path, nothing is at the path. -/
theorem TM.none_of {w : World} {lo tb c : Nat} {F : Tri} {tag : Tag} (M : TM w lo tb c F tag) (path : List ByteArray) : ∀ (d k : Nat), k + d = path.length → F (path.take k) = none → F path = none
  | 0, k, hk, h => by
    rw [List.take_of_length_le (by omega)] at h
    exact h
  | d + 1, k, hk, h => by
    refine M.none_of path d (k + 1) (by omega) ?_
    cases h2 : F (path.take (k + 1)) with
    | none => rfl
    | some nd =>
      rw [take_snocL path k (by omega)] at h2
      obtain ⟨nd', h3, _⟩ := M.up _ _ (by rw [h2]; rfl)
      rw [h] at h3
      cases h3

def atPtr (F : Tri) (path : List ByteArray) : Option Addr := (F path).map fun nd => ⟨nd.blk, 0, none⟩
def getF (F : Tri) (path : List ByteArray) : Bool × Bool := match F path with | some nd => (nd.val, nd.has) | none => (false, false)

theorem strs_of_row {w : World} {base : Nat} {v : Value} {l : List ByteArray} (h : w.ownsRow base 9 1 v l.length (l.map .string)) (hl : l.length ≤ maxLen) (hs : ∀ x ∈ l, x.size ≤ maxLen) : StrsAt w base w.heap.size v l := by
  refine (ownStrs_of_row h hl (fun i hi => hs _ (List.getElem_mem hi)) ((v.ownBlock).getD 0) ?_).strs
  cases hb : v.ownBlock with
  | some b => exact .inl rfl
  | none =>
    right
    rcases h.2 with ⟨_, h0⟩ | ⟨g, cap, cur, rfl, _⟩
    · exact List.eq_nil_of_length_eq_zero h0
    · cases hb

set_option maxHeartbeats 2000000 in
theorem at_any (path : List ByteArray) (vp : Value) (w : World) (lo tb c : Nat) (F : Tri) (tag : Tag) (lo' hi' : Nat) (M : TM w lo tb c F tag) (hp : StrsAt w lo' hi' vp path) :
    Calls Tryd.prog 57 #[.pointer (some ⟨tb, 0, none⟩), vp] w fun e w' => e = .returned (.tuple #[.pointer (atPtr F path), .bool (F path).isSome]) ∧ w' = w := by
  obtain ⟨pa, pc, rfl, hpl, _, hpcell⟩ := hp
  unfold maxLen at hpl
  have HM := hide M
  clear M
  have HR : Hid (∀ k, k ≤ path.length → F (path.take k) = none → F path = none) := fun k hk h => HM.out.none_of path (path.length - k) k (by omega) h
  obtain ⟨nd0, hnd0, hb0⟩ := HM.out.root
  have HV1 : Hid (F path = none → atPtr F path = none) := fun h => by rw [atPtr, h]; rfl
  have HV2 : Hid (∀ nd, F path = some nd → atPtr F path = some ⟨nd.blk, 0, none⟩) := fun nd h => by rw [atPtr, h]; rfl
  generalize atPtr F path = po at HV1 HV2 ⊢
  go_enter Tryd.func57, Tryd.ntmps57
  go_wp2_with fail
  go_loop [0, 12] (fun n i => ∃ (k : Nat) (nd : Nod), k ≤ path.length ∧ i = .int .i64 k ∧ n = .pointer (some ⟨nd.blk, 0, none⟩) ∧ Hid (F (path.take k) = some nd)) (fun _ i => path.length - (intOf i).toNat)
  case atStart => exact ⟨0, nd0, Nat.zero_le _, rfl, by rw [hb0], hnd0⟩
  case round =>
    obtain ⟨k, nd, hk, rfl, rfl, HF⟩ := hrel
    clear hnd0 hb0
    by_cases hlt : k < path.length
    · obtain ⟨b, o, rfl, _, _, hcell⟩ := hpcell (by omega)
      have hck := hcell k hlt
      have hltI : (k : Int) < (path.length : Int) := by omega
      clear hpcell hcell
      have HN := hide (HM.out.node _ _ HF.out)
      have c2 := HN.out.c2
      have c3 := HN.out.c3
      have HS := hide (search_any nd.keys HN.out.asc nd.kv path[k] w lo w.heap.size (strs_of_row HN.out.kr (by have := HN.out.len; have := HM.out.cap; unfold maxLen; omega) HN.out.sz) (by have := HN.out.len; have := HM.out.cap; omega))
      cases hh : hasB nd.keys path[k] with
      | false =>
        have HNo : Hid (F path = none) := HR.out (k + 1) (by omega) (by
          cases h2 : F (path.take (k + 1)) with
          | none => rfl
          | some nd' =>
            rw [take_snocL path k hlt] at h2
            obtain ⟨nd2, h3, h4⟩ := HM.out.up _ _ (by rw [h2]; rfl)
            rw [HF.out] at h3
            cases h3
            obtain ⟨q, hq, e⟩ := List.getElem_of_mem h4
            rw [hasB_yes hq e] at hh
            cases hh)
        rw [hh] at HS
        go_wp2_with fail
        refine HS.out.mono ?_
        rintro e w1 ⟨pos, rfl, _, rfl⟩
        go_wp2_with fail
        go_ret2
        exact ⟨by rw [HV1.out HNo.out, HNo.out]; rfl, rfl⟩
      | true =>
        rw [hh] at HS
        go_wp2_with fail
        refine HS.out.mono ?_
        rintro e w1 ⟨pos, rfl, hf, rfl⟩
        obtain ⟨hpos, hkey⟩ := hf.yes hh
        obtain ⟨g, cap, hdv, _, _⟩ := ownsRow_at HN.out.dr (by omega)
        have HMem : Hid (path[k] ∈ nd.keys) := by rw [← hkey]; exact List.getElem_mem hpos
        obtain ⟨nd', HF'⟩ : ∃ nd', Hid (F (path.take (k + 1)) = some nd') := by
          have := HN.out.kid _ HMem.out
          rw [← take_snocL path k hlt] at this
          exact Option.isSome_iff_exists.1 this
        have hcd : w1.cell? ⟨g, pos, none⟩ = some (.pointer (some ⟨nd'.blk, 0, none⟩)) := by
          have h1 := HN.out.dr
          rw [hdv] at h1
          rw [h1.cellAt pos (by omega), kidVals, List.getElem?_map, List.getElem?_eq_getElem hpos, Option.map_some, hkey, ← take_snocL path k hlt, blkOf_some HF'.out]
        rw [hdv] at c3
        have hposI : (pos : Int) < (nd.keys.length : Int) := by omega
        clear hf hkey hdv hh HS
        go_wp2_with fail
        go_round
        case rel => exact ⟨k + 1, nd', by omega, by go_num, rfl, HF'⟩
        case measure => simp [intOf]; omega
    · have HE : Hid (F path = some nd) := by
        have h := HF.out
        rw [List.take_of_length_le (by omega)] at h
        exact h
      go_wp2_with fail
      go_ret2
      exact ⟨by rw [HV2.out nd HE.out, HE.out]; rfl, rfl⟩

end Go.Proofs.YtdonbgedhikocaaDoor
