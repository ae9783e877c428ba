/- What a round over the parts keeps: all below n0, and every block of cells but one. -/
import Derived.RangeFuncNested
import Derived.RangeFuncBound
import Derived.RangeFuncCalls
import Derived.RangeFuncLeaves
import Derived.Test.YtnfidecbbijpfaaProg
import Derived.Test.YtnfidecbbijpfaaCopyN
namespace Go.Proofs.Ytnfidecbbijpfaa
open Go.RowKit

structure Kp (n0 cb : Nat) (W W' : World) : Prop where
  below : Below n0 W W'
  cells : ∀ (k : Nat) (o : Obj), W.heap[k]? = some o → o.isCells = true → k ≠ cb → W'.heap[k]? = some o

theorem Kp.refl (n0 cb : Nat) (W : World) : Kp n0 cb W W := ⟨Below.refl _ _, fun _ _ h _ _ => h⟩
theorem Kp.trans {n0 cb : Nat} {A B C : World} (h : Kp n0 cb A B) (k : Kp n0 cb B C) : Kp n0 cb A C :=
  ⟨h.below.trans k.below, fun i o hi ho hne => k.cells i o (h.cells i o hi ho hne) ho hne⟩
theorem Kp.of_below {n0 cb : Nat} {W W' : World} (h : Below W.heap.size W W') (hn : n0 ≤ W.heap.size) : Kp n0 cb W W' :=
  ⟨h.mono hn, fun k _ hk _ _ => (h.block k (Array.getElem?_eq_some_iff.1 hk).1).trans hk⟩
theorem Kp.putObj {n0 cb : Nat} {w : World} (hn : n0 ≤ w.heap.size) (W : World) (l : Nat) (o o' : Obj) (hl : w.heap.size ≤ l) (h : W.heap[l]? = some o) (hc : o.isCells = false) (hw : o.isWalk = false) : Kp n0 cb W (W.putObj l o') :=
  ⟨belowK_b hn W l o o' hl h hc hw, fun k o2 hk ho _ => by
    by_cases e : k = l
    · subst e; rw [h] at hk; cases hk; rw [hc] at ho; cases ho
    · exact (World.putObj_heap_other e).trans hk⟩
theorem Kp.setCell {n0 cb : Nat} (hn : n0 ≤ cb) (W : World) (j : Nat) (v : Value) : Kp n0 cb W (W.setCell ⟨cb, j, none⟩ v) :=
  ⟨(Below.refl n0 W).setCell (p := ⟨cb, j, none⟩) hn _, fun k _ hk _ hne => (Below.heap_setCell W ⟨cb, j, none⟩ v k hne).trans hk⟩

theorem cells_of_cell {W : World} {a : Addr} {v : Value} (h : W.cell? a = some v) : ∃ o : Obj, W.heap[a.block]? = some o ∧ o.isCells = true := by
  unfold World.cell? at h
  cases ho : W.heap[a.block]? with
  | none => simp [ho] at h
  | some o => exact ⟨o, rfl, by cases o <;> simp_all [Obj.isCells]⟩

theorem Kp.cell {n0 cb : Nat} {W W' : World} (h : Kp n0 cb W W') {a : Addr} {v : Value} (hc : W.cell? a = some v) (hne : a.block ≠ cb) : W'.cell? a = some v := by
  obtain ⟨o, ho, hi⟩ := cells_of_cell hc
  rw [World.cell?_of_block ((h.cells _ o ho hi hne).trans ho.symm)]
  exact hc

theorem StrsAt.kp {n0 cb lo hi : Nat} {W W' : World} {v : Value} {l : List ByteArray} (h : StrsAt W lo hi v l) (hlo : cb < lo) (hk : Kp n0 cb W W') : StrsAt W' lo hi v l := by
  obtain ⟨a, cap, hv, hl, hsz, hc⟩ := h
  refine ⟨a, cap, hv, hl, hsz, fun h0 => ?_⟩
  obtain ⟨b, o, ha, h1, h2, hcell⟩ := hc h0
  exact ⟨b, o, ha, h1, h2, fun i hi => hk.cell (hcell i hi) (by show b ≠ cb; omega)⟩

/-- What comes at a round: the path's slice, and the part. -/
abbrev Yv := Option Addr × Nat × Nat × Value
def Yv.encs (x : Yv) : Array Value := #[.slice x.1 x.2.1 x.2.2.1, x.2.2.2]
def numY (ys : List Yv) : Nat := ys.countP (fun y => decide (0 < y.2.1))
theorem numY_append (a b : List Yv) : numY (a ++ b) = numY a + numY b := by unfold numY; exact List.countP_append

/-- How many parts the first k kids have, themselves counted. -/
def uptoK (n : Nat) (kids : List (T n)) (k : Nat) : Nat := k + ((kids.take k).map (countT n)).sum
theorem uptoK_succ (n : Nat) (kids : List (T n)) (k : Nat) (h : k < kids.length) : uptoK n kids (k + 1) = uptoK n kids k + (countT n kids[k] + 1) := by
  unfold uptoK
  rw [List.take_succ_eq_append_getElem h, List.map_append, List.sum_append]
  simp
  omega
theorem uptoK_all (n : Nat) (t : Nd (T n)) : uptoK n t.kids t.kids.length = countT (n + 1) t := by
  unfold uptoK
  rw [List.take_length]
  rfl
theorem uptoK_le (n : Nat) (t : Nd (T n)) (k : Nat) (h : k ≤ t.kids.length) : uptoK n t.kids k ≤ countT (n + 1) t := by
  have h1 := sum_take_le (countT n) t.kids k
  show _ ≤ t.kids.length + (t.kids.map (countT n)).sum
  unfold uptoK
  omega

set_option maxHeartbeats 1000000 in
theorem copyNames_row (l : List ByteArray) (v : Value) (w : World) (lo hi : Nat) (hv : StrsAt w lo hi v l) (hl : l.length ≤ 1048576) :
    Calls Try.prog 42 #[v] w fun e w' => ∃ a cap, e = .returned (.slice a l.length cap) ∧ w'.ownsRow w.heap.size 9 1 (.slice a l.length cap) l.length (l.map .string) ∧ Below w.heap.size w w' := by
  obtain ⟨a, cap, rfl, _, hs, hc⟩ := hv
  obtain ⟨iS, hiS', hzS, hsS, hbS⟩ := info_S
  have hiS := hide hiS'
  clear hiS'
  by_cases h0 : 0 < l.length
  · obtain ⟨b, o, rfl, _, _, hcell⟩ := hc h0
    have HC : Hid (∀ j u, (l.map Value.string)[j]? = some u → w.cell? ((⟨b, o, none⟩ : Addr).add j) = some u) := fun j u hu => by
      rw [List.getElem?_map] at hu
      by_cases hj : j < l.length
      · rw [List.getElem?_eq_getElem hj] at hu
        have e : Addr.add ⟨b, o, none⟩ j = ⟨b, o + j, none⟩ := by unfold Addr.add; split <;> simp_all
        rw [e, hcell j hj]
        exact hu
      · rw [List.getElem?_eq_none (by omega)] at hu; cases hu
    clear hs hc hcell
    go_enter Try.func42, Try.ntmps42
    go_wp2_with (at_builtin; refine wpList_append_own_at _ rfl _ _ 22 rfl w.heap.size 9 iS (.string ⟨#[]⟩) 1 16 Try.underlying22 hiS.out hzS hsS hbS rfl (by decide) (.slice none 0 0) 0 [] rfl (World.ownsRow_nil _ _ _ _) ⟨b, o, none⟩ l.length cap (l.map .string) rfl (by simp) HC.out (by simp [Value.oneCell']) (by unfold maxLen; omega) (by omega) (Nat.le_refl _) ?_; intro v' w1 hown hgrow hnil hat; have HOWN := hide hown; have HGROW := hide hgrow; clear hown hgrow hat hnil)
    go_ret
    have hown : w1.ownsRow w.heap.size 9 1 v' l.length (l.map .string) := by simpa using HOWN.out
    obtain ⟨a', cap', rfl⟩ := ownsRow_form hown
    exact ⟨_, _, rfl, hown, (Below.refl _ _).grown HGROW.out (Nat.le_refl _) (fun k h => by cases h)⟩
  · have hl0 : l = [] := List.eq_nil_of_length_eq_zero (by omega)
    subst hl0
    clear hc hs
    cases a with
    | none =>
      go_enter Try.func42, Try.ntmps42
      go_wp2
      go_ret
      exact ⟨_, _, rfl, World.ownsRow_nil _ _ _ _, Below.refl _ _⟩
    | some ad =>
      go_enter Try.func42, Try.ntmps42
      go_wp2_with (at_builtin; refine wpList_append_own_at _ rfl _ _ 22 rfl w.heap.size 9 iS (.string ⟨#[]⟩) 1 16 Try.underlying22 hiS.out hzS hsS hbS rfl (by decide) (.slice none 0 0) 0 [] rfl (World.ownsRow_nil _ _ _ _) ad 0 cap [] rfl (by simp) (fun j u h => by simp at h) (fun u h => by simp at h) (by unfold maxLen; omega) (by omega) (Nat.le_refl _) ?_; intro v' w1 hown hgrow hnil hat; have HGROW := hide hgrow; have HN : Hid (v' = .slice none 0 0) := hnil.2 ⟨rfl, rfl⟩; clear hown hgrow hat hnil)
      go_ret
      have hn := HN.out
      subst hn
      exact ⟨_, _, rfl, World.ownsRow_nil _ _ _ _, (Below.refl _ _).grown HGROW.out (Nat.le_refl _) (fun k h => by cases h)⟩

/-- A row of texts of one's own is a slice of texts. -/
theorem strsAt_of_row {w : World} {base : Nat} {a : Option Addr} {n cap : Nat} {l : List ByteArray} (h : w.ownsRow base 9 1 (.slice a n cap) n (l.map .string)) (hn : n = l.length) (hl : l.length ≤ maxLen) (hs : ∀ (i : Nat) (h : i < l.length), l[i].size ≤ maxLen) : StrsAt w base w.heap.size (.slice a n cap) l := by
  subst hn
  refine ⟨a, cap, rfl, hl, hs, fun h0 => ?_⟩
  obtain ⟨g, cap', hv, hb, hlt⟩ := ownsRow_at h h0
  simp only [Value.slice.injEq, true_and] at hv
  obtain ⟨rfl, rfl⟩ := hv
  refine ⟨g, 0, rfl, hb, hlt, fun i hi => ?_⟩
  have := h.cellAt i (by omega)
  rw [Nat.zero_add, this, List.getElem?_map, List.getElem?_eq_getElem hi]; rfl

end Go.Proofs.Ytnfidecbbijpfaa
