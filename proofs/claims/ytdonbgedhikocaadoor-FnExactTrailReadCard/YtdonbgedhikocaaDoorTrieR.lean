/- The trie's readers: get; the trail's under and marked. -/
import Derived.Test.YtdonbgedhikocaaDoorTrie
import Derived.Deep.CutRange
namespace Go.Proofs.YtdonbgedhikocaaDoor
open Go.RowKit

theorem TM.drewN {w : World} {lo tb c : Nat} {F : Tri} {tag : Tag} (M : TM w lo tb c F tag) (m : Nat) : TM (w.drewN m) lo tb c F tag :=
  ⟨M.root, fun p nd h => by
    have N := M.node p nd h
    exact ⟨N.c0, N.c1, N.c2, N.c3, N.fr, N.base, N.lt, N.tb, N.kr, N.kt, N.dr, N.dt, N.asc, N.sz, N.len, N.kid⟩, M.up, M.cap⟩
theorem StrsAt.drewN {w : World} {lo hi : Nat} {v : Value} {l : List ByteArray} (h : StrsAt w lo hi v l) (m : Nat) : StrsAt (w.drewN m) lo hi v l := h

set_option maxHeartbeats 2000000 in
theorem get_any (path : List ByteArray) (vp : Value) (w : World) (lo tb c : Nat) (F : Tri) (tag : Tag) (lo' hi' : Nat) (M : TM w lo tb c F tag) (hp : StrsAt w lo' hi' vp path) :
    Calls Tryd.prog 46 #[.pointer (some ⟨tb, 0, none⟩), vp] w fun e w' => e = .returned (.tuple #[.bool (getF F path).1, .bool (getF F path).2]) ∧ ∃ m, w' = w.drewN m := by
  have HC := hide (at_any path vp w lo tb c F tag lo' hi' M hp)
  obtain ⟨pa, pc, rfl, _⟩ := id hp
  cases hf : F path with
  | none =>
    have HV : Hid (getF F path = (false, false)) := by show _ = _; rw [getF, hf]
    rw [hf, atPtr, hf] at HC
    clear hf hp M
    rw [HV.out]
    go_enter Tryd.func46, Tryd.ntmps46
    go_wp2_with fail
    refine HC.out.mono ?_
    rintro e w1 ⟨rfl, rfl⟩
    go_wp2_with fail
    go_ret2
    exact ⟨rfl, 0, rfl⟩
  | some nd =>
    have HV : Hid (getF F path = (nd.val, nd.has)) := by show _ = _; rw [getF, hf]
    have N := M.node _ _ hf
    rw [hf, atPtr, hf] at HC
    have c0 := N.c0
    have c1 := N.c1
    clear hf hp M N
    rw [HV.out]
    go_enter Tryd.func46, Tryd.ntmps46
    go_wp2_with fail
    refine HC.out.mono ?_
    rintro e w1 ⟨rfl, rfl⟩
    go_wp2_with fail
    go_quiet (fail)
    go_wp2_with fail
    go_ret2
    exact ⟨rfl, _, rfl⟩

/-- What stands at a beginning of the path has all below. -/
def subAt (F : Tri) (path : List ByteArray) (n : Nat) : Bool := (getF F (path.take n)).2 && (getF F (path.take n)).1
def underF (F : Tri) (path : List ByteArray) : Bool := (List.range (path.length + 1)).any (subAt F path)
theorem any_no {f : Nat → Bool} {k : Nat} (h : (List.range k).any f = false) (h' : f k = false) : (List.range (k + 1)).any f = false := by
  rw [List.range_succ, List.any_append, h]; simp [h']
theorem any_yes {f : Nat → Bool} {k n : Nat} (h : k < n) (h' : f k = true) : (List.range n).any f = true := List.any_eq_true.2 ⟨k, List.mem_range.2 h, h'⟩

theorem strs_take {w : World} {lo hi : Nat} {pa : Option Addr} {pc : Nat} {path : List ByteArray} (h : StrsAt w lo hi (.slice pa path.length pc) path) (n : Nat) (hn : n ≤ path.length) : StrsAt w lo hi (.slice pa n pc) (path.take n) := by
  obtain ⟨a, cap, he, hl, hs, hc⟩ := h
  simp only [Value.slice.injEq, true_and] at he
  obtain ⟨rfl, rfl⟩ := he
  have hlen : (path.take n).length = n := by rw [List.length_take]; omega
  refine ⟨pa, pc, by rw [hlen], by omega, fun i hi => by rw [List.getElem_take]; exact hs i (by omega), fun h0 => ?_⟩
  obtain ⟨b, o, ha, g1, g2, hcell⟩ := hc (by omega)
  exact ⟨b, o, ha, g1, g2, fun i hi => by rw [List.getElem_take]; exact hcell i (by omega)⟩

set_option maxHeartbeats 2000000 in
theorem under_any (path : List ByteArray) (pa : Option Addr) (pc : Nat) (w : World) (lo tb c : Nat) (F : Tri) (tag : Tag) (lo' hi' : Nat) (M : TM w lo tb c F tag) (hp : StrsAt w lo' hi' (.slice pa path.length pc) path) (hpc : path.length ≤ pc) (hl4 : path.length ≤ 1000) :
    Calls Tryd.prog 36 #[.pointer (some ⟨tb, 0, none⟩), .slice pa path.length pc] w fun e w' => e = .returned (.bool (underF F path)) ∧ ∃ m, w' = w.drewN m := by
  have HG : Hid (∀ m n, n ≤ path.length → Calls Tryd.prog 46 #[.pointer (some ⟨tb, 0, none⟩), .slice pa n pc] (w.drewN m) fun e w' => e = .returned (.tuple #[.bool (getF F (path.take n)).1, .bool (getF F (path.take n)).2]) ∧ ∃ m', w' = (w.drewN m).drewN m') := fun m n hn => get_any (path.take n) _ (w.drewN m) lo tb c F tag lo' hi' (M.drewN m) ((strs_take hp n hn).drewN m)
  have HU : Hid (underF F path = (List.range (path.length + 1)).any (subAt F path)) := rfl
  generalize underF F path = res at HU ⊢
  clear hp M
  go_enter Tryd.func36, Tryd.ntmps36
  go_wp2_with fail
  go_loopw [11] (fun i wr => ∃ (k m : Nat), k ≤ path.length + 1 ∧ i = .int .i64 k ∧ wr = w.drewN m ∧ Hid ((List.range k).any (subAt F path) = false)) (fun i _ => path.length + 1 - (intOf i).toNat)
  case atStart => exact ⟨0, 0, Nat.zero_le _, rfl, rfl, rfl⟩
  case round =>
    obtain ⟨k, m, hk, rfl, rfl, HA⟩ := hrel
    by_cases hlt : k < path.length + 1
    · have hltI : (k : Int) < (path.length : Int) + 1 := by omega
      have hkc : (k : Int) ≤ (pc : Int) := by omega
      have HGk : Hid (∀ m', Calls Tryd.prog 46 #[.pointer (some ⟨tb, 0, none⟩), .slice pa k pc] (w.drewN (m + m')) fun e w' => e = .returned (.tuple #[.bool (getF F (path.take k)).1, .bool (getF F (path.take k)).2]) ∧ ∃ m2, w' = w.drewN (m + m2)) := fun m' =>
        (HG.out (m + m') k (by omega)).mono fun e w' ⟨h1, m2, h2⟩ => ⟨h1, m' + m2, by rw [h2, World.drewN_drewN, Nat.add_assoc]⟩
      have HS : Hid (subAt F path k = ((getF F (path.take k)).2 && (getF F (path.take k)).1)) := rfl
      generalize (getF F (path.take k)).1 = g1 at HGk HS
      generalize (getF F (path.take k)).2 = g2 at HGk HS
      cases hg2 : g2 with
      | false =>
        have HN : Hid ((List.range (k + 1)).any (subAt F path) = false) := any_no HA.out (by rw [HS.out, hg2]; rfl)
        subst hg2
        cases pa
        all_goals
          go_wp2_with fail
          go_quiet ((go_at_call 46; exact HGk.out _))
          go_wp2_with fail
          go_roundw
          case rel => first | exact ⟨k + 1, _, by omega, by go_num, rfl, HN⟩ | ((repeat apply Exists.intro); exact ⟨⟨k + 1, _, by omega, by go_num, rfl, HN⟩, rfl⟩)
          case measure => simp [intOf]; omega
      | true =>
        subst hg2
        cases hg1 : g1 with
        | false =>
          have HN : Hid ((List.range (k + 1)).any (subAt F path) = false) := any_no HA.out (by rw [HS.out, hg1]; rfl)
          subst hg1
          cases pa
          all_goals
            go_wp2_with fail
            go_quiet ((go_at_call 46; exact HGk.out _))
            go_wp2_with fail
            go_roundw
            case rel => exact ⟨k + 1, _, by omega, by go_num, rfl, HN⟩
            case measure => simp [intOf]; omega
        | true =>
          have HV : Hid (res = true) := by show _ = _; rw [HU.out]; exact any_yes hlt (by rw [HS.out, hg1]; rfl)
          subst hg1
          cases pa
          all_goals
            go_wp2_with fail
            go_quiet ((go_at_call 46; exact HGk.out _))
            go_wp2_with fail
            go_ret
            exact ⟨by rw [HV.out]; rfl, _, rfl⟩
    · have HV : Hid (res = false) := by
        have e : k = path.length + 1 := by omega
        have h := HA.out
        rw [e] at h
        show _ = _
        rw [HU.out, h]
      have hltI : ¬ (k : Int) < (path.length : Int) + 1 := by omega
      go_wp2_with fail
      go_ret
      exact ⟨by rw [HV.out]; rfl, _, rfl⟩

def markedF (F : Tri) (path : List ByteArray) : Bool := (getF F path).2 || underF F path

set_option maxHeartbeats 2000000 in
theorem marked_any (path : List ByteArray) (pa : Option Addr) (pc : Nat) (w : World) (lo tb c : Nat) (F : Tri) (tag : Tag) (lo' hi' : Nat) (M : TM w lo tb c F tag) (hp : StrsAt w lo' hi' (.slice pa path.length pc) path) (hpc : path.length ≤ pc) (hl4 : path.length ≤ 1000) :
    Calls Tryd.prog 47 #[.pointer (some ⟨tb, 0, none⟩), .slice pa path.length pc] w fun e w' => e = .returned (.bool (markedF F path)) ∧ ∃ m, w' = w.drewN m := by
  have HG := hide (get_any path _ w lo tb c F tag lo' hi' M hp)
  have HU : Hid (∀ m, Calls Tryd.prog 36 #[.pointer (some ⟨tb, 0, none⟩), .slice pa path.length pc] (w.drewN m) fun e w' => e = .returned (.bool (underF F path)) ∧ ∃ m', w' = (w.drewN m).drewN m') := fun m => under_any path pa pc (w.drewN m) lo tb c F tag lo' hi' (M.drewN m) (hp.drewN m) hpc hl4
  have HV : Hid (markedF F path = ((getF F path).2 || underF F path)) := rfl
  generalize markedF F path = res at HV ⊢
  generalize underF F path = uf at HU HV
  generalize (getF F path).1 = g1 at HG
  generalize (getF F path).2 = g2 at HG HV
  clear M hp
  cases g2
  all_goals
    go_enter Tryd.func47, Tryd.ntmps47
    go_wp2_with fail
    refine HG.out.mono ?_
    rintro e w1 ⟨rfl, m, rfl⟩
  · go_wp2_with fail
    refine (HU.out m).mono ?_
    rintro e w1 ⟨rfl, m', rfl⟩
    go_wp2_with fail
    go_ret
    exact ⟨by rw [HV.out]; rfl, _, rfl⟩
  · go_wp2_with fail
    go_ret
    exact ⟨by rw [HV.out]; rfl, _, rfl⟩

set_option maxHeartbeats 2000000 in
/-- Where nothing is at the path, prune does nothing. -/
theorem prune_none (path : List ByteArray) (vp : Value) (w : World) (lo tb c : Nat) (F : Tri) (tag : Tag) (lo' hi' : Nat) (M : TM w lo tb c F tag) (hp : StrsAt w lo' hi' vp path) (hf : F path = none) :
    Calls Tryd.prog 48 #[.pointer (some ⟨tb, 0, none⟩), vp] w fun e w' => e = .returned (.tuple #[]) ∧ w' = w := by
  have HC := hide (at_any path vp w lo tb c F tag lo' hi' M hp)
  obtain ⟨pa, pc, rfl, _⟩ := id hp
  rw [hf, atPtr, hf] at HC
  clear hf hp M
  go_enter Tryd.func48, Tryd.ntmps48
  go_wp2_with fail
  refine HC.out.mono ?_
  rintro e w1 ⟨rfl, rfl⟩
  go_wp2_with fail
  go_end0
  exact ⟨rfl, rfl⟩

theorem below_cell {B : Nat} {w W : World} (h : Below B w W) {p : Addr} {u : Value} (hp : p.block < B) (hc : w.cell? p = some u) : W.cell? p = some u := by rw [h.cell hp]; exact hc
theorem heap_self {w : World} {b o : Nat} {v : Value} (h : w.cell? ⟨b, o, none⟩ = some v) (k : Nat) : (w.setCell ⟨b, o, none⟩ v).heap[k]? = w.heap[k]? := by
  by_cases hk : k = b
  · subst hk
    unfold World.cell? at h
    split at h
    · rename_i c e f hb
      simp only [Option.isSome_none, Bool.false_eq_true, if_false] at h
      unfold World.setCell
      simp only [Array.getElem?_modify, hb, if_true, Option.map_some, Option.isSome_none, Bool.false_eq_true, if_false]
      congr 2
      apply Array.ext_getElem?
      intro j
      rw [Array.getElem?_setIfInBounds]
      split
      · rename_i e3
        subst e3
        obtain ⟨hlt, _⟩ := Array.getElem?_eq_some_iff.1 h
        simp [hlt]
        simpa [hlt] using h.symm
      · rfl
    · cases h
  · exact Below.heap_setCell _ _ _ _ hk
theorem below_self {w : World} {b o : Nat} {v : Value} (h : w.cell? ⟨b, o, none⟩ = some v) : Below w.heap.size w (w.setCell ⟨b, o, none⟩ v) := ⟨rfl, rfl, rfl, by simp [World.setCell], fun k _ => heap_self h k⟩

set_option maxHeartbeats 2000000 in
/-- Where nothing has been put yet, prune of the root leaves all as it was. -/
theorem prune_zero (vp : Value) (w : World) (lo tb c : Nat) (F : Tri) (tag : Tag) (lo' hi' : Nat) (M : TM w lo tb c F tag) (hp : StrsAt w lo' hi' vp []) (hf : F [] = some ⟨tb, false, false, [], .slice none 0 0, .slice none 0 0⟩) :
    Calls Tryd.prog 48 #[.pointer (some ⟨tb, 0, none⟩), vp] w fun e w' => e = .returned (.tuple #[]) ∧ Below w.heap.size w w' := by
  have HC := hide (at_any [] vp w lo tb c F tag lo' hi' M hp)
  obtain ⟨pa, pc, rfl, _⟩ := id hp
  have N := M.node _ _ hf
  rw [hf, atPtr, hf] at HC
  have c0 := N.c0
  have c1 := N.c1
  have c2 := N.c2
  have c3 := N.c3
  have f0 := N.fr 0 (by omega)
  have f1 := N.fr 1 (by omega)
  have f2 := N.fr 2 (by omega)
  have f3 := N.fr 3 (by omega)
  dsimp only at c0 c1 c2 c3 f0 f1 f2 f3
  have b0 := below_self c0
  have c1' := below_cell b0 N.lt c1
  have b1 := below_self c1'
  have c2' := below_cell b1 (by rw [show (w.setCell ⟨tb, 0, none⟩ (.bool false)).heap.size = w.heap.size by simp [World.setCell]]; exact N.lt) (below_cell b0 N.lt c2)
  have b2 := below_self c2'
  have c3' := below_cell b2 (by simp [World.setCell]; exact N.lt) (below_cell b1 (by simp [World.setCell]; exact N.lt) (below_cell b0 N.lt c3))
  have b3 := below_self c3'
  have hs : ∀ (u : World) (p : Addr) (v : Value), (u.setCell p v).heap.size = u.heap.size := fun u p v => by simp [World.setCell]
  rw [hs] at b1
  rw [hs, hs] at b2
  rw [hs, hs, hs] at b3
  have HB := hide (((b0.trans b1).trans b2).trans b3)
  clear hf hp M N b0 b1 b2 b3 c1' c2' c3' hs
  go_enter Tryd.func48, Tryd.ntmps48
  go_wp2_with fail
  refine HC.out.mono ?_
  rintro e w1 ⟨rfl, rfl⟩
  clear HC
  go_wp2_with fail
  go_end0
  exact ⟨rfl, HB.out⟩

end Go.Proofs.YtdonbgedhikocaaDoor
