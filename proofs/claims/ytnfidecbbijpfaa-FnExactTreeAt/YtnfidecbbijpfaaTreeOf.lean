/- treeOf: a part as a tree, in memory of its own. -/
import Derived.Test.YtnfidecbbijpfaaProg
import Derived.Test.YtnfidecbbijpfaaTreeInv
import Derived.Deep.RegionHeld3
import Derived.Deep.AppendLies
import Derived.Deep.RegionLaw
import Derived.Deep.Cut
import Derived.Deep.CutRange
namespace Go.Proofs.Ytnfidecbbijpfaa
open Go.RowKit

def TreeOfC (n : Nat) : Prop := ∀ (t : T n) (d : Int), partsB n t d = true → countT n t ≤ 1048576 → ∀ (v : Value) (w : World) (lo hi : Nat), PRep w lo hi n t v → hi ≤ w.heap.size →
  Calls Try.prog 31 #[v] w fun e w' => ∃ nv kv, e = .returned (aggT n t nv kv) ∧ Own w' n w.heap.size w'.heap.size t nv kv ∧ Below w.heap.size w w'

theorem wf_mode (m : Int) (h : modeB m = true) : (Lit.int .i64 m).wf = true := by
  unfold modeB at h
  simp only [Bool.and_eq_true, decide_eq_true_eq] at h
  simp [Lit.wf, IntKind.min, IntKind.max, IntKind.signed, IntKind.bits]
  omega

theorem plain_data {dir : Bool} {mode : Int} {data : ByteArray} {names : List ByteArray} {k : Nat} (h : plainB dir mode data names k = true) : data.size ≤ maxLen ∧ (Lit.int .i64 mode).wf = true := by
  rw [plainB] at h
  simp only [Bool.and_eq_true] at h
  refine ⟨?_, wf_mode _ h.1.1⟩
  unfold maxLen
  cases dir with
  | false =>
    have := h.2
    simp only [Bool.false_eq_true, if_false, Bool.and_eq_true, decide_eq_true_eq] at this
    omega
  | true =>
    have := h.2
    simp only [if_true, Bool.and_eq_true, beq_iff_eq] at this
    omega

theorem plain_dir {mode : Int} {data : ByteArray} {names : List ByteArray} {k : Nat} (h : plainB true mode data names k = true) : data = ⟨#[]⟩ := by
  rw [plainB] at h
  simp only [Bool.and_eq_true, if_true, beq_iff_eq] at h
  obtain ⟨arr⟩ := data
  have h2 : arr.size = 0 := h.2.2
  rw [Array.eq_empty_of_size_eq_zero h2]

theorem plain_file {mode : Int} {data : ByteArray} {names : List ByteArray} {k : Nat} (h : plainB false mode data names k = true) : names = [] ∧ k = 0 := by
  rw [plainB] at h
  simp only [Bool.and_eq_true, Bool.false_eq_true, if_false, beq_iff_eq] at h
  exact ⟨List.eq_nil_of_length_eq_zero h.2.2, by omega⟩

theorem own_leaf (w : World) (n lo hi : Nat) (dir : Bool) (mode : Int) (data : ByteArray) (a a' : Option Addr) (c c' : Nat) (hd : data.size ≤ maxLen ∧ (Lit.int .i64 mode).wf = true) :
    Own w (n + 1) lo hi (⟨dir, mode, data, [], []⟩ : Nd (T n)) (.slice a 0 c) (.slice a' 0 c') :=
  ⟨hd.1, hd.2, 0, 1, fun _ => 0, fun _ => 0, ownStrs_nil _ _ _ _ _ _, ⟨⟨a', c', rfl, fun h => by simp at h⟩, Nat.zero_le _, fun h => by simp at h, fun i h => by simp at h, fun i h => by simp at h⟩, by omega, fun i h => by simp at h⟩

theorem ownStrs_wide0 {w : World} {lo hi lo' hi' b : Nat} {v : Value} {l : List ByteArray} (h : OwnStrs w lo hi b v l) (h1 : lo' ≤ lo) (h2 : hi ≤ hi') : OwnStrs w lo' hi' b v l := by
  obtain ⟨p1, p2, p3, p4, p5⟩ := h
  exact ⟨p1, p2, p3, fun h0 => ⟨by have := p4 h0; omega, by have := p4 h0; omega⟩, p5⟩
theorem own_wide (w : World) : ∀ (n lo hi lo' hi' : Nat) (t : T n) (v : Value × Value), lo' ≤ lo → hi ≤ hi' → Own w n lo hi t v.1 v.2 → Own w n lo' hi' t v.1 v.2
  | 0, _, _, _, _, _, _, _, _, h => h
  | n + 1, lo, hi, lo', hi', t, v, h1, h2, ⟨p0, p1, bn, bk, s, e, p2, p3, p4, p5⟩ => by
    refine ⟨p0, p1, bn, bk, s, e, ownStrs_wide0 p2 h1 h2, ?_, p4, p5⟩
    obtain ⟨q1, q2, q3, q4, q5⟩ := p3
    exact ⟨q1, q2, fun h0 => ⟨by have := q3 h0; omega, by have := q3 h0; omega⟩, fun i hi => by obtain ⟨r1, r2, r3, r4, r5⟩ := q4 i hi; exact ⟨by omega, r2, by omega, r4, r5⟩, q5⟩

theorem info_T : ∃ i, Try.prog.info? 30 = some i ∧ i.zero = some (.agg zeroCells) ∧ i.size = 5 ∧ i.bytes = 80 := by
  obtain ⟨i, hi, h⟩ := Option.map_eq_some_iff.1 info_tree
  simp only [Prod.mk.injEq] at h
  exact ⟨i, hi, h.1, h.2.1, h.2.2⟩

theorem res1 {w w1 : World} (h : Below (w.alloc (.cells zeroCells 30)).drew.heap.size (w.alloc (.cells zeroCells 30)).drew w1) : Blk w1 w.heap.size zeroCells 30 := by
  have h1 : Blk (w.alloc (.cells zeroCells 30)).drew w.heap.size zeroCells 30 := Blk.new w zeroCells _
  exact h1.below h h1.lt
theorem res2 {w w1 : World} (h : Below ((w.alloc (.cells zeroCells 30)).alloc (.cells zeroCells 30)).drew.heap.size ((w.alloc (.cells zeroCells 30)).alloc (.cells zeroCells 30)).drew w1) : Blk w1 w.heap.size zeroCells 30 := by
  have h1 : Blk ((w.alloc (.cells zeroCells 30)).alloc (.cells zeroCells 30)).drew w.heap.size zeroCells 30 := (Blk.new w zeroCells _).alloc _
  exact h1.below h h1.lt
theorem two_new {w w1 : World} (h : Below ((w.alloc (.cells zeroCells 30)).alloc (.cells zeroCells 30)).drew.heap.size ((w.alloc (.cells zeroCells 30)).alloc (.cells zeroCells 30)).drew w1) : Blk w1 (w.heap.size + 1) zeroCells 30 := by
  have h1 : Blk ((w.alloc (.cells zeroCells 30)).alloc (.cells zeroCells 30)).drew (w.heap.size + 1) zeroCells 30 := by
    have := Blk.new (w.alloc (.cells zeroCells 30)) zeroCells 30
    have e : (w.alloc (.cells zeroCells 30)).heap.size = w.heap.size + 1 := by simp
    rw [e] at this
    exact this
  exact h1.below h h1.lt
theorem far5 {w w1 : World} {b : Nat} (hb : b < w.heap.size) (j : Nat) (v0 v1 v2 v3 v4 : Value) : (set5 w1 (w.heap.size + 1) 0 v0 v1 v2 v3 v4).cell? ⟨b, j, none⟩ = w1.cell? ⟨b, j, none⟩ :=
  World.cell?_of_block (set5_other _ _ _ _ _ _ _ _ b (by omega))

/-- What holds ahead of the kids: the result's block br, the new tree's block bx with its names copied. -/
structure StartT (w : World) (br : Nat) (hd : List Value) (names : List ByteArray) (bx : Nat) (nv : Value) (wx : World) : Prop where
  below : Below w.heap.size w wx
  low : w.heap.size ≤ br
  res : Blk wx br zeroCells 30
  ge : br + 1 ≤ bx
  tree : Blk wx bx (hd ++ [nv, .slice none 0 0]).toArray 30
  names_ : ∃ bn, bn ≠ bx ∧ OwnStrs wx (br + 1) wx.heap.size bn nv names

theorem ownStrs_wide {w : World} {lo hi lo' hi' b : Nat} {v : Value} {l : List ByteArray} (h : OwnStrs w lo hi b v l) (h1 : lo' ≤ lo) (h2 : hi ≤ hi') : OwnStrs w lo' hi' b v l := by
  obtain ⟨p1, p2, p3, p4, p5⟩ := h
  exact ⟨p1, p2, p3, fun h0 => ⟨by have := p4 h0; omega, by have := p4 h0; omega⟩, p5⟩

/-- Of no names any block will do. -/
theorem ownStrs_ne {w : World} {lo hi b x : Nat} {v : Value} {l : List ByteArray} (h : OwnStrs w lo hi b v l) (hx : hi ≤ x) : ∃ b', b' ≠ x ∧ OwnStrs w lo hi b' v l := by
  by_cases h0 : 0 < l.length
  · have := h.2.2.2.1 h0
    exact ⟨b, by omega, h⟩
  · have hl : l = [] := List.eq_nil_of_length_eq_zero (by omega)
    subst hl
    obtain ⟨⟨a, cap, rfl, _⟩, _⟩ := h
    exact ⟨x + 1, by omega, ownStrs_nil _ _ _ _ _ _⟩

theorem startA {w w1 : World} {mode : Int} {names : List ByteArray} {nv : Value} (hb : Below w.heap.size w w1) (hr : Blk w1 w.heap.size zeroCells 30) {lo b : Nat} (hlo : w.heap.size + 1 ≤ lo) (ho : OwnStrs w1 lo w1.heap.size b nv names) :
    StartT w w.heap.size [.bool true, .int .i64 mode, .string ⟨#[]⟩] names w1.heap.size nv (w1.alloc (.cells #[.bool true, .int .i64 mode, .string ⟨#[]⟩, nv, .slice none 0 0] 30)) := by
  have hlt := hr.lt
  have ho' := ho.same (w' := w1.alloc (.cells #[.bool true, .int .i64 mode, .string ⟨#[]⟩, nv, .slice none 0 0] 30)) fun k h1 h2 => Below.heap_alloc _ _ _ h2
  obtain ⟨b', hb', ho2⟩ := ownStrs_ne ho' (Nat.le_refl _)
  exact ⟨hb.alloc (by omega) _, Nat.le_refl _, hr.alloc _, by omega, Blk.new _ _ _, b', hb', ownStrs_wide ho2 hlo (by simp)⟩

theorem startB {w w1 : World} {mode : Int} {names : List ByteArray} {nv : Value} (hb : Below w.heap.size w w1) (hr : Blk w1 w.heap.size zeroCells 30) (hx : Blk w1 (w.heap.size + 1) zeroCells 30) {lo b : Nat} (hlo : w.heap.size + 2 ≤ lo) (ho : OwnStrs w1 lo w1.heap.size b nv names) :
    StartT w w.heap.size [.bool true, .int .i64 mode, .string ⟨#[]⟩] names (w.heap.size + 1) nv (set5 w1 (w.heap.size + 1) 0 (.bool true) (.int .i64 mode) (.string ⟨#[]⟩) nv (.slice none 0 0)) := by
  have ho' := ho.same (w' := set5 w1 (w.heap.size + 1) 0 (.bool true) (.int .i64 mode) (.string ⟨#[]⟩) nv (.slice none 0 0)) fun k h1 h2 => set5_other _ _ _ _ _ _ _ _ k (by omega)
  refine ⟨set5_below hb (by omega) _ _ _ _ _ _, Nat.le_refl _, (set5_other _ _ _ _ _ _ _ _ _ (by omega)).trans hr, Nat.le_refl _, ?_, ?_⟩
  · exact ((((hx.set 0 _).set 1 _).set 2 _).set 3 _).set 4 _
  · by_cases h0 : 0 < names.length
    · have := ho'.2.2.2.1 h0
      exact ⟨b, by omega, ownStrs_wide ho' (by omega) (by rw [set5_size]; exact Nat.le_refl _)⟩
    · have hl : names = [] := List.eq_nil_of_length_eq_zero (by omega)
      subst hl
      obtain ⟨⟨a, cap, rfl, _⟩, _⟩ := ho
      exact ⟨w.heap.size + 2, by omega, ownStrs_nil _ _ _ _ _ _⟩

theorem at_of {kvv : Value} {g n cap : Nat} {w1 : World} {o : Obj} (h : kvv.ownBlock = some g ∨ g = (w1.alloc o).heap.size) : (Value.slice (some ⟨g, 0, none⟩) n cap).ownBlock = kvv.ownBlock ∨ (Value.slice (some ⟨g, 0, none⟩) n cap).ownBlock = some (w1.heap.size + 1) := by
  rcases h with h | h
  · exact .inl h.symm
  · exact .inr (by simp [Value.ownBlock, h])

theorem ownStrs_block {w w' : World} {lo hi b : Nat} {v : Value} {l : List ByteArray} (h : OwnStrs w lo hi b v l) (hs : 0 < l.length → w'.heap[b]? = w.heap[b]?) : OwnStrs w' lo hi b v l := by
  obtain ⟨p1, p2, p3, p4, p5⟩ := h
  refine ⟨p1, p2, p3, p4, fun i hi => ?_⟩
  have hb := hs (by omega)
  rw [World.cell?_of_block (a := ⟨b, i, none⟩) hb, World.frozen?_of_block (a := ⟨b, i, none⟩) hb]
  exact p5 i hi

theorem treeT_done {n : Nat} {w wc wr : World} {br : Nat} {hd : List Value} {dir : Bool} {mode : Int} {names : List ByteArray} {kids : List (T n)} {bx : Nat} {nvv : Value} {k : Nat} {kvv : Value} {xs : List Value} {s e : Nat → Nat}
    (S : StartT w br hd names bx nvv wc) (I : InvT n hd nvv kids bx wc k wr kvv xs s e) (hk : k = kids.length) (hl : kids.length ≤ maxLen) {data : ByteArray} (hda : data.size ≤ maxLen ∧ (Lit.int .i64 mode).wf = true) {v0 v1 v2 v3 v4 : Value} :
    Own (set5 wr br 0 v0 v1 v2 v3 v4) (n + 1) w.heap.size (set5 wr br 0 v0 v1 v2 v3 v4).heap.size (⟨dir, mode, data, names, kids⟩ : Nd (T n)) nvv kvv := by
  obtain ⟨bk, hbk, hK⟩ := I.done hk hl
  obtain ⟨bn, hbn, hN⟩ := S.names_
  have hws := I.aside.size
  have hge := S.ge
  have hlow := S.low
  have hlt := I.lt
  have hSz := S.below.size
  rw [set5_size]
  have hN1 : OwnStrs wr (br + 1) wc.heap.size bn nvv names := ownStrs_block hN fun h0 => I.aside.block bn (hN.2.2.2.1 h0).2 hbn
  have hN2 : OwnStrs (set5 wr br 0 v0 v1 v2 v3 v4) (br + 1) wc.heap.size bn nvv names := hN1.same fun j h1 h2 => set5_other _ _ _ _ _ _ _ _ j (by omega)
  have hK2 : OwnKids (Own (set5 wr br 0 v0 v1 v2 v3 v4) n) (headT n) (set5 wr br 0 v0 v1 v2 v3 v4) wc.heap.size wr.heap.size bk s e kvv kids :=
    hK.same (fun j h1 h2 => set5_other _ _ _ _ _ _ _ _ j (by omega)) fun i hi t' nv' kv' hr => Own.same n _ _ _ _ _ (fun j h1 h2 => set5_other _ _ _ _ _ _ _ _ j (by have := (hK.2.2.2.1 i hi).1; omega)) hr
  have hK3 : OwnKids (Own (set5 wr br 0 v0 v1 v2 v3 v4) n) (headT n) (set5 wr br 0 v0 v1 v2 v3 v4) w.heap.size wr.heap.size bk s e kvv kids := by
    obtain ⟨q1, q2, q3, q4, q5⟩ := hK2
    exact ⟨q1, q2, fun h0 => ⟨by have := q3 h0; omega, (q3 h0).2⟩, fun i hi => by obtain ⟨r1, r2, r3, r4, r5⟩ := q4 i hi; exact ⟨by omega, r2, r3, r4, r5⟩, q5⟩
  by_cases h0 : 0 < names.length
  · have hb := hN.2.2.2.1 h0
    by_cases hk0 : 0 < kids.length
    · have hbb := hbk hk0
      refine ⟨hda.1, hda.2, bn, bk, s, e, ownStrs_wide0 hN2 (by omega) hws, hK3, by omega, fun i hi => ?_⟩
      have := (hK.2.2.2.1 i hi).1
      omega
    · have hnil : kids = [] := List.eq_nil_of_length_eq_zero (by omega)
      subst hnil
      obtain ⟨⟨a, cap, rfl, _⟩, _⟩ := hK
      exact ⟨hda.1, hda.2, bn, bn + 1, s, e, ownStrs_wide0 hN2 (by omega) hws, ⟨⟨a, cap, rfl, fun h => by simp at h⟩, hl, fun h => by simp at h, fun i h => by simp at h, fun i h => by simp at h⟩, by omega, fun i h => by simp at h⟩
  · have hnil : names = [] := List.eq_nil_of_length_eq_zero (by omega)
    subst hnil
    obtain ⟨⟨a, cap, rfl, _⟩, _⟩ := hN
    refine ⟨hda.1, hda.2, wr.heap.size + bk + 1, bk, s, e, ownStrs_nil _ _ _ _ _ _, hK3, by omega, fun i hi => ?_⟩
    have := (hK.2.2.2.1 i hi).2.2.1
    omega

set_option maxHeartbeats 2000000 in
set_option maxRecDepth 100000 in
theorem treeOf_succ (n : Nat) (ih : TreeOfC n) : TreeOfC (n + 1) := by
  intro t d hparts hcnt v w lo hi hp hhi
  obtain ⟨dir, mode, data, names, kids⟩ := t
  have hpl : (plainB dir mode data names kids.length && decide (d ≤ 4) && kids.all (fun k => partsB n k (d + 1))) = true := hparts
  rw [Bool.and_eq_true, Bool.and_eq_true] at hpl
  have hdat := plain_data hpl.1.1
  have HKp : Hid (∀ (i : Nat) (h : i < kids.length), partsB n kids[i] (d + 1) = true ∧ countT n kids[i] ≤ 1048576) := fun i h => ⟨List.all_eq_true.1 hpl.2 _ (List.getElem_mem h), by have : countT n kids[i] ≤ _ := kid_le (n := n) ⟨dir, mode, data, names, kids⟩ i h; omega⟩
  have hkl : kids.length ≤ 1048576 := Nat.le_trans (kids_le (n := n) ⟨dir, mode, data, names, kids⟩) hcnt
  have hnl : names.length = kids.length := by
    have := hpl.1.1
    rw [plainB] at this
    simp only [Bool.and_eq_true, beq_iff_eq] at this
    exact this.1.2
  have HDa := hide hdat
  have HNL := hide hnl
  rcases hp with ⟨hd, b, rfl, hb1, hb2, hb⟩ | ⟨hd, b, rfl, hb1, hb2, nvp, kvp, hb, hN, hK⟩
  · have hd : dir = false := hd
    subst hd
    obtain ⟨rfl, hk0⟩ := plain_file hpl.1.1
    have hk0 : kids = [] := List.eq_nil_of_length_eq_zero hk0
    subst hk0
    have x0 : w.cell? ⟨b, 0, none⟩ = some (.int .i64 mode) := hb.cell 0 _ rfl
    have x1 : w.cell? ⟨b, 1, none⟩ = some (.string data) := hb.cell 1 _ rfl
    have hbl := hb.lt
    clear hb hparts hpl hdat ih HKp
    have t1 := ta_ff
    go_enter Try.func31, Try.ntmps31
    go_wp2_with fail
    go_region
    all_goals
      go_wp2_with fail
      refine bodyPost_ret (v := .agg #[.bool false, .int .i64 mode, .string data, .slice none 0 0, .slice none 0 0]) (by simp [results, Try.results31, go_sem]) rfl ⟨_, _, rfl, own_leaf _ _ _ _ _ _ _ _ _ _ _ HDa.out, ((Below.refl _ _).alloc (Nat.le_refl _) _).drew⟩
  · have hd : dir = true := hd
    subst hd
    have hde := plain_dir hpl.1.1
    subst hde
    have x0 : w.cell? ⟨b, 0, none⟩ = some (.int .i64 mode) := hb.cell 0 _ rfl
    have x1 : w.cell? ⟨b, 1, none⟩ = some nvp := hb.cell 1 _ rfl
    have hbl := hb.lt
    have HBb := hide hb
    have HN := hide hN
    have HK := hide hK
    have HI := hide ih
    have hN' : StrsAt w lo hi nvp names := hN
    have HCN : Hid (∀ W, Below w.heap.size w W → Calls Try.prog 42 #[nvp] W fun e w' => ∃ v', e = .returned v' ∧ OwnStrs w' W.heap.size w'.heap.size W.heap.size v' names ∧ Below W.heap.size W w') := fun W hW => copyNames_any names nvp W lo hi (hN'.keep hW hhi) (by omega)
    clear hnl
    clear hb hparts hpl hdat ih hN hK hN'
    have t1 := ta_df
    have t2 := ta_dd
    go_enter Try.func31, Try.ntmps31
    go_wp2_with fail
    go_cut [5] from 24 to 33 (fun x5 wx => ∃ (bx : Nat) (a1 : Option Addr) (c1 : Nat), x5 = .pointer (some ⟨bx, 0, none⟩) ∧ Hid (StartT w w.heap.size [.bool true, .int .i64 mode, .string ⟨#[]⟩] names bx (.slice a1 names.length c1) wx))
    case first =>
      go_region_held3 (fun w' => w'.cell? ⟨b, 0, none⟩ = some (.int .i64 mode) ∧ w'.cell? ⟨b, 1, none⟩ = some nvp) (first | go_keep | exact ⟨(far5 hbl 0 _ _ _ _ _).trans y0, (far5 hbl 1 _ _ _ _ _).trans y1⟩)
        (first
          | (go_at_call 42
             refine (HCN.out _ (by repeat (first | exact Below.refl _ _ | refine Below.drew ?_ | refine Below.alloc ?_ (by simp <;> omega) _))).mono ?_
             rintro e w1 ⟨v1, rfl, hO1, hB1⟩
             obtain ⟨⟨a1, c1, rfl, _⟩, _⟩ := id hO1
             have HO1 := hide hO1
             have HB1 := hide hB1
             have HBw : Hid (Below w.heap.size w w1) := Below.trans (by repeat (first | exact Below.refl _ _ | refine Below.drew ?_ | refine Below.alloc ?_ (by simp <;> omega) _)) (hB1.mono (by simp <;> omega))
             have y0 : w1.cell? ⟨b, 0, none⟩ = some (.int .i64 mode) := (HBw.out.cell (p := ⟨b, 0, none⟩) hbl).trans x0
             have y1 : w1.cell? ⟨b, 1, none⟩ = some nvp := (HBw.out.cell (p := ⟨b, 1, none⟩) hbl).trans x1
             have HRes : Hid (Blk w1 w.heap.size zeroCells 30) := by first | exact res1 hB1 | exact res2 hB1
             first
               | (have HBx : Hid (Blk w1 (w.heap.size + 1) zeroCells 30) := two_new hB1
                  have z0 := HBx.out.cell 0 _ rfl
                  have z1 := HBx.out.cell 1 _ rfl
                  have z2 := HBx.out.cell 2 _ rfl
                  have z3 := HBx.out.cell 3 _ rfl
                  have z4 := HBx.out.cell 4 _ rfl
                  have u0 := HBx.out.frozen 0
                  have u1 := HBx.out.frozen 1
                  have u2 := HBx.out.frozen 2
                  have u3 := HBx.out.frozen 3
                  have u4 := HBx.out.frozen 4)
               | skip
             clear hO1 hB1))
      all_goals
        go_wp2_with fail
        go_meet
        first
          | exact ⟨_, _, _, rfl, startB HBw.out HRes.out HBx.out (by simp) HO1.out⟩
          | exact ⟨_, _, _, rfl, startA HBw.out HRes.out (by simp) HO1.out⟩
    case rest =>
      obtain ⟨bx, a1, c1, rfl, HS⟩ := hcut
      have x2 : wc.cell? ⟨b, 2, none⟩ = some kvp := (HBb.out.below HS.out.below hbl).cell 2 _ rfl
      clear x0 x1 HCN
      obtain ⟨ka, kc, rfl, _, hkc⟩ := HK.out
      have HKc := hide hkc
      clear hkc
      go_wp2_with fail
      go_loopw [39] (fun i wr => ∃ (k : Nat) (kvv : Value) (xs : List Value) (s e : Nat → Nat), k ≤ kids.length ∧ i = .int .i64 k ∧ Hid (InvT n [.bool true, .int .i64 mode, .string ⟨#[]⟩] (.slice a1 names.length c1) kids bx wc k wr kvv xs s e)) (fun i _ => kids.length - (intOf i).toNat)
      case atStart => exact ⟨0, .slice none 0 0, [], fun _ => 0, fun _ => 0, Nat.zero_le _, rfl, HS.out.tree.lt, Aside.refl _ _, HS.out.tree, World.ownsRow_nil _ _ _ _, fun i _ h => by omega⟩
      case round =>
        obtain ⟨k, kvv, xs, s, e, hk, rfl, I⟩ := hrel
        by_cases hlt : k < kids.length
        · obtain ⟨kb, ko, rfl, hkb1, hkb2, hcell⟩ := HKc.out (by omega)
          obtain ⟨pv, hcp, hrp⟩ := hcell k hlt
          have hltI : (k : Int) < (kids.length : Int) := by omega
          have HBl : Hid (Below w.heap.size w wr) := HS.out.below.trans (I.out.aside.toBelow (by have := HS.out.ge; omega) HS.out.below.size)
          rw [← HBl.out.cell (p := ⟨kb, _, none⟩) (by show kb < w.heap.size; omega)] at hcp
          have HP : Hid (PRep wr lo hi n kids[k] pv) := PRep.same (sameIn_below HBl.out hhi) n _ _ hrp
          have hz : hi ≤ wr.heap.size := Nat.le_trans hhi HBl.out.size
          obtain ⟨pu, pb, rfl⟩ := HP.out.form
          have HC : Hid (∀ W, Below wr.heap.size wr W → Calls Try.prog 31 #[.iface pu (.pointer (some ⟨pb, 0, none⟩))] W fun e w' => ∃ nv kv, e = .returned (.agg #[.bool (headT n kids[k]).1, .int .i64 (headT n kids[k]).2.1, .string (headT n kids[k]).2.2, nv, kv]) ∧ Own w' n wr.heap.size w'.heap.size kids[k] nv kv ∧ Below wr.heap.size wr w' ∧ W.heap.size ≤ w'.heap.size) := fun W hW =>
            (HI.out kids[k] (d + 1) (HKp.out k hlt).1 (HKp.out k hlt).2 _ W lo hi (PRep.same (sameIn_below hW hz) n _ _ HP.out) (Nat.le_trans hz hW.size)).mono fun e w' ⟨nv, kv, h1, h2, h3⟩ => ⟨nv, kv, h1, own_wide _ _ _ _ _ _ _ (nv, kv) hW.size (Nat.le_refl _) h2, hW.trans (h3.mono hW.size), h3.size⟩
          have y4 : wr.cell? ⟨bx, 4, none⟩ = some kvv := I.out.dir_.cell 4 _ rfl
          have y4f := I.out.dir_.frozen 4
          have hbxl := I.out.dir_.lt
          obtain ⟨iT, hiT', hzT, hsT, hbT⟩ := info_T
          have hiT := hide hiT'
          clear hiT' hcell hrp
          go_wp2_with fail
          go_region_law (first
            | (refine step_append_lies _ rfl (.tmp 44) (.tmp 47) 28 rfl wc.heap.size 30 iT (.agg zeroCells) 5 80 Try.underlying28 hiT.out hzT hsT hbT rfl (by decide) kvv k xs (by simp [Act.eval]) (HOwn.out _) ⟨w1.heap.size, 0, none⟩ 1 1 (cells5of n kids[k] (.slice xa xm xc) (.slice ya ym yc)) (by simp [Act.eval]) rfl (World.news_of_block (heap_alloc_new w1 _)) (by simp [cells5of, Value.oneCell']) (by omega) (by unfold maxLen; omega) (by omega) (by simp; omega) _ rfl ?_
               intro g cap w2 hown hgrow hat hgl
               have HOWN := hide hown
               have HGROW := hide hgrow
               have HAT := hide hat
               have HD2 : Hid (Blk w2 bx #[.bool true, .int .i64 mode, .string ⟨#[]⟩, .slice a1 names.length c1, kvv] 30) := (HD1.out.alloc _).grown hgrow (fun h => by have := I.out.row.lt _ h.symm; have := I.out.lt; omega)
               have z4 := HD2.out.cell 4 _ rfl
               have z4f := HD2.out.frozen 4
               clear hown hgrow hat)
            | (rw [if_pos (by simp [Region.wanted])]
               go_simp
               go_at_call 31
               refine (HC.out _ (by first | exact (Below.refl _ _).drew | exact Below.refl _ _)).mono ?_
               rintro e1 w1 ⟨nv1, kv1, rfl, hO1, hB1, _⟩
               obtain ⟨xa, xm, xc, ya, ym, yc, rfl, rfl⟩ := (Own.rep _ _ _ _ _ _ hO1).slices
               have HO1 := hide hO1
               have HB1 := hide hB1
               have HOwn : Hid (∀ o, (w1.alloc o).ownsRow wc.heap.size 30 5 kvv k xs) := fun o => (ownsRow_same I.out.row fun g hg => hB1.block g (I.out.row.lt g hg).2).alloc o
               have HD1 : Hid (Blk w1 bx #[.bool true, .int .i64 mode, .string ⟨#[]⟩, .slice a1 names.length c1, kvv] 30) := I.out.dir_.below hB1 hbxl
               have y4' := HD1.out.cell 4 _ rfl
               have y4o : ∀ o, (w1.alloc o).cell? ⟨bx, 4, none⟩ = some kvv := fun o => (HD1.out.alloc o).cell 4 _ rfl
               have hw1 : wr.heap.size ≤ w1.heap.size := hB1.size
               have hws := I.out.aside.size
               clear hO1 hB1))
          all_goals
            go_wp2_with fail
            go_roundw
            case rel => exact ⟨k + 1, _, _, _, _, by omega, by go_num, I.out.step rfl hlt HB1.out HO1.out _ HOWN.out HGROW.out (at_of HAT.out)⟩
            case measure => simp [intOf]; omega
        · have e1 : k = kids.length := by omega
          have HE1 := hide e1
          clear e1
          have HR : Hid (Blk wr w.heap.size zeroCells 30) := HS.out.res.aside I.out.aside (by have := HS.out.ge; omega)
          have y0 := I.out.dir_.cell 0 _ rfl
          have y1 := I.out.dir_.cell 1 _ rfl
          have y2 := I.out.dir_.cell 2 _ rfl
          have y3 := I.out.dir_.cell 3 _ rfl
          have y4 := I.out.dir_.cell 4 _ rfl
          have z0 := HR.out.cell 0 _ rfl
          have z1 := HR.out.cell 1 _ rfl
          have z2 := HR.out.cell 2 _ rfl
          have z3 := HR.out.cell 3 _ rfl
          have z4 := HR.out.cell 4 _ rfl
          have u0 := HR.out.frozen 0
          have u1 := HR.out.frozen 1
          have u2 := HR.out.frozen 2
          have u3 := HR.out.frozen 3
          have u4 := HR.out.frozen 4
          obtain ⟨ka', kc', rfl⟩ := ownsRow_form I.out.row
          go_wp2_with fail
          refine bodyPost_ret (v := .agg #[.bool true, .int .i64 mode, .string ⟨#[]⟩, .slice a1 names.length c1, .slice ka' k kc']) (by simp [results, Try.results31, go_sem, z0, z1, z2, z3, z4]) rfl ⟨_, _, rfl, treeT_done HS.out I.out HE1.out (by unfold maxLen; omega) HDa.out, ?_⟩
          exact set5_below (HS.out.below.trans (I.out.aside.toBelow (by have := HS.out.ge; omega) HS.out.below.size)) (Nat.le_refl _) _ _ _ _ _ _

theorem treeOf_any : ∀ n, TreeOfC n
  | 0 => fun t => Empty.elim (show Empty from t)
  | n + 1 => treeOf_succ n (treeOf_any n)

end Go.Proofs.Ytnfidecbbijpfaa
