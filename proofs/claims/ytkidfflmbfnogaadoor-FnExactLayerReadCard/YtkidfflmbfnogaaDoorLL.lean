/- The specification's l3Line. -/
import Derived.Test.YtkidfflmbfnogaaDoorCutW
import Derived.Test.YtkidfflmbfnogaaDoorAsd
import Derived.Test.YtkidfflmbfnogaaDoorLLr
import Derived.Test.YtkidfflmbfnogaaDoorRdF
import Derived.Test.YtkidfflmbfnogaaDoorRdE
import Derived.Test.YtkidfflmbfnogaaDoorRdW
import Derived.Test.YtkidfflmbfnogaaDoorEntL
import Derived.Test.YtkidfflmbfnogaaDoorEntB
import Derived.Test.YtkidfflmbfnogaaDoorHexS
import Derived.Test.YtkidfflmbfnogaaDoorMdS
import Derived.Deep.CutBlock
import Derived.Deep.RegionWith
import Derived.BigRegion
namespace Go.Proofs.YtkidfflmbfnogaaDoor
open Go.RowKit

/-- A path that was cut out of a text: behind the first of its block. -/
def PthAt (W : World) (lo : Nat) (pa : Option Addr) (pc : Nat) (P : List ByteArray) : Prop :=
  (P.length ≤ pc ∧ pc ≤ maxLen ∧ P.length ≤ 1048577 ∧ ∀ (j : Nat) (h : j < P.length), P[j].size ≤ 1048576) ∧
    (0 < P.length → ∃ b, pa = some ⟨b, 1, none⟩ ∧ lo ≤ b ∧ b < W.heap.size ∧ ∀ (j : Nat) (h : j < P.length), W.cell? ⟨b, 1 + j, none⟩ = some (.string P[j]))
theorem PthAt.nil (W : World) (lo : Nat) : PthAt W lo none 0 [] := ⟨⟨by simp, by simp, by simp, fun j h => by simp at h⟩, fun h => by simp at h⟩
theorem PthAt.same {W W' : World} {lo : Nat} {pa : Option Addr} {pc : Nat} {P : List ByteArray} (h : PthAt W lo pa pc P) (hz : W.heap.size ≤ W'.heap.size) (hs : ∀ k, lo ≤ k → k < W.heap.size → W'.heap[k]? = W.heap[k]?) : PthAt W' lo pa pc P := by
  refine ⟨h.1, fun h0 => ?_⟩
  obtain ⟨b, h1, h2, h3, h4⟩ := h.2 h0
  exact ⟨b, h1, h2, Nat.lt_of_lt_of_le h3 hz, fun j hj => by rw [World.cell?_of_block (w := W) (hs b h2 h3)]; exact h4 j hj⟩
theorem PthAt.below {W W' : World} {lo : Nat} {pa : Option Addr} {pc : Nat} {P : List ByteArray} (h : PthAt W lo pa pc P) (hb : Below W.heap.size W W') : PthAt W' lo pa pc P := h.same hb.size (fun k _ hk => hb.block k hk)
theorem PthAt.strs {W : World} {lo : Nat} {pa : Option Addr} {pc : Nat} {P : List ByteArray} (h : PthAt W lo pa pc P) : StrsAt W lo W.heap.size (.slice pa P.length pc) P := by
  refine ⟨pa, pc, rfl, by have := h.1.2.2.1; unfold maxLen; omega, fun i hi => by have := h.1.2.2.2 i hi; unfold maxLen; omega, fun h0 => ?_⟩
  obtain ⟨b, h1, h2, h3, h4⟩ := h.2 h0
  exact ⟨b, 1, h1, h2, h3, h4⟩

theorem PthAt.low {W : World} {lo lo' : Nat} {pa : Option Addr} {pc : Nat} {P : List ByteArray} (h : PthAt W lo pa pc P) (hl : lo' ≤ lo) : PthAt W lo' pa pc P :=
  ⟨h.1, fun h0 => by obtain ⟨b, h1, h2, h3⟩ := h.2 h0; exact ⟨b, h1, by omega, h3⟩⟩

/-- What l3Line gives. -/
def LineL (r : Option Ent) (w : World) (e : Ending) (w' : World) : Prop := match r with
  | some en => ∃ (pa : Option Addr) (pc : Nat), e = .returned (.tuple #[aggE en pa pc, .bool true]) ∧ PthAt w' w.heap.size pa pc en.path
  | none => ∃ (a : Option Addr) (n c : Nat) (wt : Int) (d : Bool) (m : Int) (x : ByteArray), e = .returned (.tuple #[.agg #[.slice a n c, .int .i64 wt, .bool d, .int .i64 m, .string x], .bool false])

def zeroE : Array Value := #[.slice none 0 0, .int .i64 0, .bool false, .int .i64 0, .string ⟨#[]⟩]

theorem two_of {t : List ByteArray} (h : t.length = 2) : ∃ c f, t = [c, f] := by
  match t, h with
  | [c, f], _ => exact ⟨c, f, rfl⟩
theorem modeS_wf (c : ByteArray) : (Lit.int .i64 (modeS c)).wf = true := by
  by_cases h : 0 ≤ modeS c
  · obtain ⟨d, _, h2⟩ := modeS_list h
    rw [h2]
    have hh : ∀ d : Fin 8, (Lit.int .i64 ((d.val : Nat) : Int)).wf = true := by decide +kernel
    exact hh d
  · have e : modeS c = -1 := by
      unfold modeS at h ⊢
      split
      · split
        · rename_i hc; rename_i x hx; rw [hx] at h; simp only [] at h; rw [if_pos hc] at h; omega
        · rfl
      · rfl
    rw [e]; decide
theorem bytes_opt (c : ByteArray) (hc : c.size ≤ 1048576) : ((bytesV c).getD ⟨#[]⟩).size ≤ maxLen := by
  cases h : bytesV c with
  | none => exact Nat.zero_le _
  | some y =>
    show y.size ≤ maxLen
    unfold maxLen
    rcases bytes_size h with ⟨_, rfl⟩ | ⟨_, _, _, _, _, h2⟩
    · exact Nat.zero_le _
    · omega

/-- No path, no entry. -/
theorem no_path (a b : ByteArray) (t : List ByteArray) (h : pathS b = none) : readL (a :: b :: t) = none := by
  match t with
  | [] => simp only [readL, h]; split <;> rfl
  | [c] => simp only [readL, h]; repeat (first | rfl | split)
  | [c, f] => simp only [readL, h]; split <;> rfl
  | _ :: _ :: _ :: _ => rfl

/-- The entry as it stands so far. -/
structure LlI (w w1 : World) (gw : Nat) (pa : Option Addr) (pc : Nat) (P : List ByteArray) (wt : Int) (d : Bool) (m : Int) (x : ByteArray) (wx : World) : Prop where
  below : Below w.heap.size w wx
  res : Blk wx w.heap.size zeroE 31
  box : Blk wx w1.heap.size #[.slice pa P.length pc, .int .i64 wt, .bool d, .int .i64 m, .string x] 31
  words : wx.heap[gw]? = w1.heap[gw]?
  path : PthAt wx (w1.heap.size + 1) pa pc P
  ord : w.heap.size < gw ∧ gw < w1.heap.size

theorem LlI.after {w w1 : World} {gw : Nat} {pa : Option Addr} {pc : Nat} {P : List ByteArray} {wt : Int} {d : Bool} {m : Int} {x : ByteArray} {wx : World} (h : LlI w w1 gw pa pc P wt d m x wx) {wy : World} (hb : Below wx.heap.size wx wy) : LlI w w1 gw pa pc P wt d m x wy :=
  ⟨h.below.trans (hb.mono h.below.size), h.res.below hb h.res.lt, h.box.below hb h.box.lt, (hb.block gw (by have := h.ord.2; have := h.box.lt; omega)).trans h.words, h.path.below hb, h.ord⟩
theorem LlI.put {w w1 : World} {gw : Nat} {pa : Option Addr} {pc : Nat} {P : List ByteArray} {wt : Int} {d : Bool} {m : Int} {x : ByteArray} {wx : World} (h : LlI w w1 gw pa pc P wt d m x wx) (j : Nat) (v : Value) (pa' : Option Addr) (pc' : Nat) (P' : List ByteArray) (wt' : Int) (d' : Bool) (m' : Int) (x' : ByteArray)
    (hA : (#[.slice pa P.length pc, .int .i64 wt, .bool d, .int .i64 m, .string x] : Array Value).setIfInBounds j v = #[.slice pa' P'.length pc', .int .i64 wt', .bool d', .int .i64 m', .string x']) (hp : PthAt wx (w1.heap.size + 1) pa' pc' P') :
    LlI w w1 gw pa' pc' P' wt' d' m' x' (wx.setCell ⟨w1.heap.size, j, none⟩ v) := by
  have h1 := h.ord.1
  have h2 := h.ord.2
  refine ⟨h.below.setCell (p := ⟨w1.heap.size, j, none⟩) (by show _ ≤ w1.heap.size; omega) _, h.res.other _ _ (by show w.heap.size ≠ w1.heap.size; omega), by rw [← hA]; exact h.box.set j v, (Below.heap_setCell _ _ _ _ (by show gw ≠ w1.heap.size; omega)).trans h.words, ?_, h.ord⟩
  exact hp.same (by simp [World.setCell]) (fun k hk _ => Below.heap_setCell _ _ _ _ (by show k ≠ w1.heap.size; omega))
theorem LlI.what {w w1 : World} {gw : Nat} {pa : Option Addr} {pc : Nat} {P : List ByteArray} {wt : Int} {d : Bool} {m : Int} {x : ByteArray} {wx : World} (h : LlI w w1 gw pa pc P wt d m x wx) (n : Int) : LlI w w1 gw pa pc P n d m x (wx.setCell ⟨w1.heap.size, 1, none⟩ (.int .i64 n)) := h.put 1 _ _ _ _ _ _ _ _ rfl h.path
theorem LlI.dir {w w1 : World} {gw : Nat} {pa : Option Addr} {pc : Nat} {P : List ByteArray} {wt : Int} {d : Bool} {m : Int} {x : ByteArray} {wx : World} (h : LlI w w1 gw pa pc P wt d m x wx) (n : Bool) : LlI w w1 gw pa pc P wt n m x (wx.setCell ⟨w1.heap.size, 2, none⟩ (.bool n)) := h.put 2 _ _ _ _ _ _ _ _ rfl h.path
theorem LlI.mode {w w1 : World} {gw : Nat} {pa : Option Addr} {pc : Nat} {P : List ByteArray} {wt : Int} {d : Bool} {m : Int} {x : ByteArray} {wx : World} (h : LlI w w1 gw pa pc P wt d m x wx) (n : Int) : LlI w w1 gw pa pc P wt d n x (wx.setCell ⟨w1.heap.size, 3, none⟩ (.int .i64 n)) := h.put 3 _ _ _ _ _ _ _ _ rfl h.path
theorem LlI.data {w w1 : World} {gw : Nat} {pa : Option Addr} {pc : Nat} {P : List ByteArray} {wt : Int} {d : Bool} {m : Int} {x : ByteArray} {wx : World} (h : LlI w w1 gw pa pc P wt d m x wx) (n : ByteArray) : LlI w w1 gw pa pc P wt d m n (wx.setCell ⟨w1.heap.size, 4, none⟩ (.string n)) := h.put 4 _ _ _ _ _ _ _ _ rfl h.path

theorem put5_below {B : Nat} {w0 w : World} (h : Below B w0 w) {g : Nat} (hg : B ≤ g) (v0 v1 v2 v3 v4 : Value) : Below B w0 (put5 w g v0 v1 v2 v3 v4) :=
  ((((h.setCell (p := ⟨g, 0, none⟩) hg v0).setCell (p := ⟨g, 1, none⟩) hg v1).setCell (p := ⟨g, 2, none⟩) hg v2).setCell (p := ⟨g, 3, none⟩) hg v3).setCell (p := ⟨g, 4, none⟩) hg v4
theorem put5_other (w : World) (g : Nat) (v0 v1 v2 v3 v4 : Value) (k : Nat) (hk : k ≠ g) : (put5 w g v0 v1 v2 v3 v4).heap[k]? = w.heap[k]? := by
  unfold put5
  rw [Below.heap_setCell _ _ _ _ hk, Below.heap_setCell _ _ _ _ hk, Below.heap_setCell _ _ _ _ hk, Below.heap_setCell _ _ _ _ hk, Below.heap_setCell _ _ _ _ hk]
theorem put5_size (w : World) (g : Nat) (v0 v1 v2 v3 v4 : Value) : (put5 w g v0 v1 v2 v3 v4).heap.size = w.heap.size := by
  simp [put5, World.setCell]

theorem put5_aside {ib : Nat} {w0 w : World} (h : Aside ib w0 w) (v0 v1 v2 v3 v4 : Value) : Aside ib w0 (put5 w ib v0 v1 v2 v3 v4) :=
  ((((h.set (p := ⟨ib, 0, none⟩) (.inl rfl) v0).set (p := ⟨ib, 1, none⟩) (.inl rfl) v1).set (p := ⟨ib, 2, none⟩) (.inl rfl) v2).set (p := ⟨ib, 3, none⟩) (.inl rfl) v3).set (p := ⟨ib, 4, none⟩) (.inl rfl) v4
theorem put5_blk {w : World} {g : Nat} {a0 a1 a2 a3 a4 : Value} {t : TypeId} (h : Blk w g #[a0, a1, a2, a3, a4] t) (v0 v1 v2 v3 v4 : Value) : Blk (put5 w g v0 v1 v2 v3 v4) g #[v0, v1, v2, v3, v4] t :=
  ((((h.set 0 v0).set 1 v1).set 2 v2).set 3 v3).set 4 v4

theorem ll_no {w W : World} {r : Option Ent} (hr : r = none) (hb : Below w.heap.size w W) (a : Option Addr) (n c : Nat) (wt : Int) (d : Bool) (m : Int) (x : ByteArray) :
    Below w.heap.size w W ∧ LineL r w (.returned (.tuple #[.agg #[.slice a n c, .int .i64 wt, .bool d, .int .i64 m, .string x], .bool false])) W := by
  subst hr
  exact ⟨hb, a, n, c, wt, d, m, x, rfl⟩

set_option maxRecDepth 100000 in
set_option maxHeartbeats 40000000 in
theorem l3Line_any (s : ByteArray) (hs : s.size ≤ 1048576) (w : World) :
    Calls Tryd.prog 10 #[.string s] w fun e w' => Below w.heap.size w w' ∧ LineL (readL (cutB 32 s)) w e w' := by
  have HWs := hide (cutB_sizes 32 s)
  have hwp := cutB_pos 32 s
  have hwl := cutB_len 32 s
  go_enter Tryd.func10, Tryd.ntmps10
  go_wp2_with fail
  refine (cut32 s _ hs).mono ?_
  rintro e w1 ⟨wa, wc, rfl, hO1, hB1⟩
  obtain ⟨gw, rfl, hg1, hg2, hcap, hcw⟩ := row_strs hO1 hwp
  have HG : Hid (w.heap.size < gw ∧ gw < w1.heap.size) := ⟨by simp at hg1; omega, hg2⟩
  have HI1 : Hid (∀ W1, w1.alloc (.cells zeroE 31) = W1 → LlI w w1 gw none 0 [] 0 false 0 ⟨#[]⟩ W1 ∧ ∀ u, W1.cell? ⟨gw, u, none⟩ = w1.cell? ⟨gw, u, none⟩) := by
    rintro W1 rfl
    have hr : Blk w1 w.heap.size zeroE 31 := (Blk.new w zeroE 31).below hB1 (by simp)
    have hb : Below w.heap.size w w1 := ((Below.refl _ _).alloc (Nat.le_refl _) _).trans (hB1.mono (by simp))
    exact ⟨⟨hb.alloc hb.size _, hr.alloc _, Blk.new _ _ _, Below.heap_alloc _ _ _ hg2, PthAt.nil _ _, HG.out⟩, fun u => World.cell?_alloc_old _ _ _ (by show gw ≠ _; omega)⟩
  have HCW := hide hcw
  have hR1 : Blk w1 w.heap.size zeroE 31 := (Blk.new w zeroE 31).below hB1 (by simp)
  have r0 : ∀ o, (w1.alloc o).cell? ⟨w.heap.size, 0, none⟩ = some (.slice none 0 0) := fun o => (hR1.alloc o).cell 0 _ rfl
  have r1 : ∀ o, (w1.alloc o).cell? ⟨w.heap.size, 1, none⟩ = some (.int .i64 0) := fun o => (hR1.alloc o).cell 1 _ rfl
  have r2 : ∀ o, (w1.alloc o).cell? ⟨w.heap.size, 2, none⟩ = some (.bool false) := fun o => (hR1.alloc o).cell 2 _ rfl
  have r3 : ∀ o, (w1.alloc o).cell? ⟨w.heap.size, 3, none⟩ = some (.int .i64 0) := fun o => (hR1.alloc o).cell 3 _ rfl
  have r4 : ∀ o, (w1.alloc o).cell? ⟨w.heap.size, 4, none⟩ = some (.string ⟨#[]⟩) := fun o => (hR1.alloc o).cell 4 _ rfl
  have f0 : ∀ o, (w1.alloc o).frozen? ⟨w.heap.size, 0, none⟩ = false := fun o => (hR1.alloc o).frozen 0
  have f1 : ∀ o, (w1.alloc o).frozen? ⟨w.heap.size, 1, none⟩ = false := fun o => (hR1.alloc o).frozen 1
  have f2 : ∀ o, (w1.alloc o).frozen? ⟨w.heap.size, 2, none⟩ = false := fun o => (hR1.alloc o).frozen 2
  have f3 : ∀ o, (w1.alloc o).frozen? ⟨w.heap.size, 3, none⟩ = false := fun o => (hR1.alloc o).frozen 3
  have f4 : ∀ o, (w1.alloc o).frozen? ⟨w.heap.size, 4, none⟩ = false := fun o => (hR1.alloc o).frozen 4
  clear hO1 hB1 hcw hg1 hR1
  generalize hws : cutB 32 s = ws at *
  match ws, hwp with
  | [a], _ =>
    go_wp2_with fail
    with_reducible refine ll_end (b := w.heap.size) (p := none) (n := 0) (c := 0) (i1 := 0) (b2 := false) (i3 := 0) (s4 := ⟨#[]⟩) (bb := false) ?h2 ?h3 ?hB ?hd ?h
    case h2 => kernel_rfl
    case h3 => kernel_rfl
    case hB => exact put5_blk (HI1.out _ rfl).1.res _ _ _ _ _
    case hd => rfl
    case h => exact ll_no (by rw [hws]; rfl) (put5_below (HI1.out _ rfl).1.below (Nat.le_refl _) _ _ _ _ _) _ _ _ _ _ _ _
  | a :: b :: t, _ =>
    have c0 : ∀ o, (w1.alloc o).cell? ⟨gw, 0, none⟩ = some (.string a) := fun o => by rw [World.cell?_alloc_old _ _ _ (by show gw ≠ _; omega)]; exact HCW.out 0 (by simp)
    have c1 : ∀ o, (w1.alloc o).cell? ⟨gw, 1, none⟩ = some (.string b) := fun o => by rw [World.cell?_alloc_old _ _ _ (by show gw ≠ _; omega)]; exact HCW.out 1 (by simp)
    have hbz : b.size ≤ 1048576 := Nat.le_trans (HWs.out 1 (by simp)) hs
    have hn2 : ¬ ((((a :: b :: t).length : Nat) : Int) < 2) := by simp; omega
    by_cases hb0 : b.size = 0
    · obtain rfl : b = ⟨#[]⟩ := by rw [← ofL_toL b, List.eq_nil_of_length_eq_zero (l := b.data.toList) (by simpa using hb0)]
      clear hb0
      go_wp2_with fail
      with_reducible refine ll_end (b := w.heap.size) (p := none) (n := 0) (c := 0) (i1 := 0) (b2 := false) (i3 := 0) (s4 := ⟨#[]⟩) (bb := false) ?h2 ?h3 ?hB ?hd ?h
      case h2 => kernel_rfl
      case h3 => kernel_rfl
      case hB => exact put5_blk (HI1.out _ rfl).1.res _ _ _ _ _
      case hd => rfl
      case h => exact ll_no (by rw [hws]; exact no_path a _ t rfl) (put5_below (HI1.out _ rfl).1.below (Nat.le_refl _) _ _ _ _ _) _ _ _ _ _ _ _
    · have hbp : 0 < b.size := by omega
      have hbi : (0 : Int) < (b.size : Int) := by omega
      have hhd : b.data.toList.head? = some b[0] := by
        rw [List.head?_eq_getElem?, List.getElem?_eq_getElem (by simpa using hbp)]; rfl
      have n1 : ¬ b.toList = [] := fun e => by rw [Lib.toList_data] at e; rw [e] at hhd; simp at hhd
      have n2 : b.toList.isEmpty = false := by simpa using n1
      have n3 : (b.toList == []) = false := beq_eq_false_iff_ne.2 n1
      by_cases hb1 : b[0] = 47
      · have n4 : ((b[0].toNat : Int) != 47) = false := by rw [hb1]; rfl
        rw [hb1] at hhd
        have HHd := hide hhd
        clear hhd
        go_upto_if 32 with fail
        generalize hW1 : w1.alloc (Obj.cells #[.slice none 0 0, .int .i64 0, .bool false, .int .i64 0, .string ⟨#[]⟩] 31) = W1
        have HJ := hide (HI1.out W1 hW1).1
        have e0 : W1.cell? ⟨gw, 0, none⟩ = some (.string a) := by rw [← hW1]; exact c0 _
        have e1 : W1.cell? ⟨gw, 1, none⟩ = some (.string b) := by rw [← hW1]; exact c1 _
        clear hW1 HI1 c0 c1 r0 r1 r2 r3 r4 f0 f1 f2 f3 f4
        have x0 := HJ.out.box.cell 0 _ rfl
        have y0 := HJ.out.box.frozen 0
        go_cut [] from 8 (fun wx => ∃ (pa : Option Addr) (pc : Nat) (P : List ByteArray), Hid (pathS b = some P ∧ LlI w w1 gw pa pc P 0 false 0 ⟨#[]⟩ wx))
        case first =>
          by_cases hr : b = wRoot
          · subst hr
            have t3 : wRoot.toList = [47] := by rw [Lib.toList_data]
            have HP : Hid (pathS wRoot = some []) := by show _ = _; unfold pathS; rw [if_pos HHd.out, if_pos rfl]
            simp only [t3, beq_self_eq_true, Bool.not_true]
            go_wp2_with fail
            go_meet
            exact ⟨none, 0, [], HP.out, HJ.out⟩
          · obtain ⟨P, hP⟩ : ∃ P, cutB 47 (b.extract 1 b.size) = P := ⟨_, rfl⟩
            have HP : Hid (pathS b = some P) := by show _ = _; unfold pathS; rw [if_pos HHd.out, if_neg hr, hP]
            have hPp : 0 < P.length := by rw [← hP]; exact cutB_pos _ _
            have hPl : P.length ≤ 1048577 := by
              have := cutB_len 47 (b.extract 1 b.size); rw [hP, ByteArray.size_extract] at this; omega
            have HPs : Hid (∀ (j : Nat) (h : j < P.length), P[j].size ≤ 1048576) := by
              subst hP
              exact fun j h => Nat.le_trans (cutB_sizes _ _ j h) (extract_le b _ _ _ hbz)
            have HLen : Hid ((cutB 47 b).length = P.length + 1) := by show _ = _; rw [cutB_root HHd.out, hP]; rfl
            have n5 : ¬ b.toList = [47] := fun e => hr (toList_inj (e.trans (by rw [Lib.toList_data])))
            have n6 : (b.toList == [47]) = false := beq_eq_false_iff_ne.2 n5
            have n7 : (b.toList != [47]) = true := by simp [n5]
            clear hr
            simp only [n6, Bool.not_false]
            go_wp2_with fail
            refine (cut47 b _ hbz).mono ?_
            rintro e w4 ⟨pa4, pc4, rfl, hO4, hB4⟩
            have HB4 := hide hB4
            obtain ⟨gp, hpe, hg1, hg2', hcp, hcel⟩ := six_facts HHd.out hO4 hP
            subst hpe
            have HCel := hide hcel
            have HGp := hide (And.intro hg1 hg2')
            rw [HLen.out]
            have q := HJ.out.box.below hB4 HJ.out.box.lt
            have z0 := q.cell 0 _ rfl
            have z1 := q.frozen 0
            have HQ := hide q
            clear hO4 hB4 hcel q hg1 hg2' x0 y0
            have hi1 : (1 : Int) ≤ ((P.length + 1 : Nat) : Int) := by omega
            have hi2 : ((P.length + 1 : Nat) : Int) ≤ (pc4 : Int) := by omega
            have hi3 : (1 : Int) ≤ (pc4 : Int) := by omega
            have hi4 : ¬ pc4 = 1 := by omega
            go_wp2_with fail
            go_meet
            refine ⟨some ⟨gp, 1, none⟩, pc4 - 1, P, HP.out, (HJ.out.after HB4.out).put 0 _ _ _ _ _ _ _ _ rfl ?_⟩
            refine ⟨⟨by omega, by omega, hPl, HPs.out⟩, fun _ => ⟨gp, rfl, ?_, HGp.out.2, HCel.out⟩⟩
            have h1 := HGp.out.1
            have h2 := HJ.out.box.lt
            omega
        case rest =>
          obtain ⟨pa, pc, P, HC⟩ := hcut
          have HI := hide HC.out.2
          have HP := hide HC.out.1
          clear HC HJ x0 y0
          rename World => w5
          have HWd : Hid (∀ j (hj : j < (a :: b :: t).length), w5.cell? ⟨gw, j, none⟩ = some (.string (a :: b :: t)[j])) := fun j hj => (World.cell?_of_block (w := w1) (a := ⟨gw, j, none⟩) HI.out.words).trans (HCW.out j hj)
          have g0 : w5.cell? ⟨gw, 0, none⟩ = some (.string a) := HWd.out 0 (by simp)
          clear e0 e1 hn2 n1 n2 n3 n4 hb0 hbp hbi hb1
          go_upto_block 0 with fail
          go_cut [4, 6, 7] from 8 (fun _ _ x7 wx => ∃ (okb : Bool) (wt : Int) (d : Bool) (m : Int) (x : ByteArray), x7 = .bool okb ∧ Hid (readL (a :: b :: t) = (if okb = true then chk ⟨P, wt, d, m, x⟩ else none) ∧ LlI w w1 gw pa pc P wt d m x wx ∧ (Lit.int .i64 wt).wf = true ∧ (Lit.int .i64 m).wf = true ∧ x.size ≤ maxLen))
          case first =>
            have x0 : w5.cell? ⟨w1.heap.size, 0, none⟩ = some (.slice pa P.length pc) := HI.out.box.cell 0 _ rfl
            have z0 : w5.frozen? ⟨w1.heap.size, 0, none⟩ = false := HI.out.box.frozen 0
            have x1 : w5.cell? ⟨w1.heap.size, 1, none⟩ = some (.int .i64 0) := HI.out.box.cell 1 _ rfl
            have z1 : w5.frozen? ⟨w1.heap.size, 1, none⟩ = false := HI.out.box.frozen 1
            have x2 : w5.cell? ⟨w1.heap.size, 2, none⟩ = some (.bool false) := HI.out.box.cell 2 _ rfl
            have z2 : w5.frozen? ⟨w1.heap.size, 2, none⟩ = false := HI.out.box.frozen 2
            have x3 : w5.cell? ⟨w1.heap.size, 3, none⟩ = some (.int .i64 0) := HI.out.box.cell 3 _ rfl
            have z3 : w5.frozen? ⟨w1.heap.size, 3, none⟩ = false := HI.out.box.frozen 3
            have x4 : w5.cell? ⟨w1.heap.size, 4, none⟩ = some (.string ⟨#[]⟩) := HI.out.box.cell 4 _ rfl
            have z4 : w5.frozen? ⟨w1.heap.size, 4, none⟩ = false := HI.out.box.frozen 4
            have r0 : w5.cell? ⟨w.heap.size, 0, none⟩ = some (.slice none 0 0) := HI.out.res.cell 0 _ rfl
            have f0 : w5.frozen? ⟨w.heap.size, 0, none⟩ = false := HI.out.res.frozen 0
            have r1 : w5.cell? ⟨w.heap.size, 1, none⟩ = some (.int .i64 0) := HI.out.res.cell 1 _ rfl
            have f1 : w5.frozen? ⟨w.heap.size, 1, none⟩ = false := HI.out.res.frozen 1
            have r2 : w5.cell? ⟨w.heap.size, 2, none⟩ = some (.bool false) := HI.out.res.cell 2 _ rfl
            have f2 : w5.frozen? ⟨w.heap.size, 2, none⟩ = false := HI.out.res.frozen 2
            have r3 : w5.cell? ⟨w.heap.size, 3, none⟩ = some (.int .i64 0) := HI.out.res.cell 3 _ rfl
            have f3 : w5.frozen? ⟨w.heap.size, 3, none⟩ = false := HI.out.res.frozen 3
            have r4 : w5.cell? ⟨w.heap.size, 4, none⟩ = some (.string ⟨#[]⟩) := HI.out.res.cell 4 _ rfl
            have f4 : w5.frozen? ⟨w.heap.size, 4, none⟩ = false := HI.out.res.frozen 4
            have hgx : gw ≠ w1.heap.size := by omega
            have HDef : Hid (readL (a :: b :: t) = none → ∀ W, Below w.heap.size w W → Below w.heap.size w W ∧ LineL (readL (cutB 32 s)) w (.returned (.tuple #[.agg #[.slice pa P.length pc, .int .i64 0, .bool false, .int .i64 0, .string ⟨#[]⟩], .bool false])) W) := fun h W hb => ll_no (by rw [hws]; exact h) hb _ _ _ _ _ _ _
            by_cases h0 : a = fw0
            · subst h0
              have t0 : fw0.toList = [103, 111, 110, 101] := by rw [Lib.toList_data]
              by_cases hn : t.length + 2 = 2
              · obtain rfl : t = [] := List.eq_nil_of_length_eq_zero (by omega)
                have HR : Hid (readL [fw0, b] = chk ⟨P, 1, false, 0, ⟨#[]⟩⟩) := by show _ = _; simp only [readL, if_true, HP.out, Option.bind_some]
                go_wp2_with fail
                go_meet
                exact ⟨true, 1, false, 0, ⟨#[]⟩, rfl, HR.out, HI.out.what 1, rfl, rfl, by decide⟩
              · have HD := hide (HDef.out ((read_same _).symm.trans (len_0 (b :: t) (by rw [List.length_cons]; omega))))
                have hq : ((t.length : Int) + 1 + 1 == 2) = false := beq_eq_false_iff_ne.2 (by omega)
                clear hn HDef
                go_wp2_with fail
                with_reducible refine ll_end (b := w.heap.size) (p := pa) (n := P.length) (c := pc) (i1 := 0) (b2 := false) (i3 := 0) (s4 := ⟨#[]⟩) (bb := false) ?h2 ?h3 ?hB ?hd ?h
                case h2 => kernel_rfl
                case h3 => kernel_rfl
                case hB => exact put5_blk HI.out.res _ _ _ _ _
                case hd => rfl
                case h => exact HD.out _ (put5_below HI.out.below (Nat.le_refl _) _ _ _ _ _)
            · skip
              by_cases h1 : a = fw1
              · subst h1
                have t1 : fw1.toList = [110, 101, 119, 100, 105, 114] := by rw [Lib.toList_data]
                by_cases hn : t.length + 2 = 3
                · obtain ⟨c, rfl⟩ := List.length_eq_one_iff.1 (by omega : t.length = 1)
                  have g2 : w5.cell? ⟨gw, 2, none⟩ = some (.string c) := HWd.out 2 (by simp)
                  have hcz : c.size ≤ 1048576 := Nat.le_trans (HWs.out 2 (by simp)) hs
                  have HR : Hid (readL [fw1, b, c] = chk ⟨P, 2, true, modeS c, ⟨#[]⟩⟩) := by show _ = _; simp only [readL]; first | rw [if_pos rfl, HP.out, Option.bind_some] | simp only [if_true, HP.out, Option.bind_some]
                  go_wp2_with fail
                  refine (l3Mode_any c _).mono ?_
                  rintro e w6 ⟨rfl, rfl⟩
                  go_wp2_with fail
                  go_meet
                  exact ⟨true, 2, true, modeS c, ⟨#[]⟩, rfl, HR.out, ((HI.out.what 2).dir true).mode (modeS c), rfl, modeS_wf c, by decide⟩
                · have HD := hide (HDef.out ((read_same _).symm.trans (len_1 (b :: t) (by rw [List.length_cons]; omega))))
                  have hq : ((t.length : Int) + 1 + 1 == 3) = false := beq_eq_false_iff_ne.2 (by omega)
                  clear hn HDef
                  go_wp2_with fail
                  with_reducible refine ll_end (b := w.heap.size) (p := pa) (n := P.length) (c := pc) (i1 := 0) (b2 := false) (i3 := 0) (s4 := ⟨#[]⟩) (bb := false) ?h2 ?h3 ?hB ?hd ?h
                  case h2 => kernel_rfl
                  case h3 => kernel_rfl
                  case hB => exact put5_blk HI.out.res _ _ _ _ _
                  case hd => rfl
                  case h => exact HD.out _ (put5_below HI.out.below (Nat.le_refl _) _ _ _ _ _)
              · skip
                by_cases h2 : a = fw2
                · subst h2
                  have t2 : fw2.toList = [110, 101, 119] := by rw [Lib.toList_data]
                  by_cases hn : t.length + 2 = 4
                  · obtain ⟨c, f, rfl⟩ := two_of (by omega : t.length = 2)
                    have g2 : w5.cell? ⟨gw, 2, none⟩ = some (.string c) := HWd.out 2 (by simp)
                    have hcz : c.size ≤ 1048576 := Nat.le_trans (HWs.out 2 (by simp)) hs
                    have g3 : w5.cell? ⟨gw, 3, none⟩ = some (.string f) := HWd.out 3 (by simp)
                    have hfz : f.size ≤ 1048576 := Nat.le_trans (HWs.out 3 (by simp)) hs
                    have HR : Hid (readL [fw2, b, c, f] = (bytesV f).bind (fun y => chk ⟨P, 2, false, modeS c, y⟩)) := by show _ = _; simp only [readL]; first | rw [if_pos rfl, HP.out, Option.bind_some] | simp only [if_true, HP.out, Option.bind_some]
                    have HBs := hide (bytes_opt f hfz)
                    go_wp2_with fail
                    refine (l3Mode_any c _).mono ?_
                    rintro e w6 ⟨rfl, rfl⟩
                    go_wp2_with fail
                    refine (l1Bytes_any f _ hfz).mono ?_
                    rintro e w7 ⟨rfl, hB7⟩
                    have HL7 := hide (((HI.out.what 2).mode (modeS c)).after hB7)
                    have q4 := HL7.out.box.cell 4 _ rfl
                    have q5 := HL7.out.box.frozen 4
                    clear hB7
                    generalize hbv : bytesV f = bv at *
                    go_wp2_with fail
                    go_meet
                    refine ⟨bv.isSome, 2, false, modeS c, bv.getD ⟨#[]⟩, rfl, ?_, HL7.out.data _, rfl, modeS_wf c, HBs.out⟩
                    rw [HR.out]; cases bv <;> rfl
                  · have HD := hide (HDef.out ((read_same _).symm.trans (len_2 (b :: t) (by rw [List.length_cons]; omega))))
                    have hq : ((t.length : Int) + 1 + 1 == 4) = false := beq_eq_false_iff_ne.2 (by omega)
                    clear hn HDef
                    go_wp2_with fail
                    with_reducible refine ll_end (b := w.heap.size) (p := pa) (n := P.length) (c := pc) (i1 := 0) (b2 := false) (i3 := 0) (s4 := ⟨#[]⟩) (bb := false) ?h2 ?h3 ?hB ?hd ?h
                    case h2 => kernel_rfl
                    case h3 => kernel_rfl
                    case hB => exact put5_blk HI.out.res _ _ _ _ _
                    case hd => rfl
                    case h => exact HD.out _ (put5_below HI.out.below (Nat.le_refl _) _ _ _ _ _)
                · skip
                  by_cases h3 : a = fw3
                  · subst h3
                    have t3 : fw3.toList = [109, 111, 100, 101] := by rw [Lib.toList_data]
                    by_cases hn : t.length + 2 = 3
                    · obtain ⟨c, rfl⟩ := List.length_eq_one_iff.1 (by omega : t.length = 1)
                      have g2 : w5.cell? ⟨gw, 2, none⟩ = some (.string c) := HWd.out 2 (by simp)
                      have hcz : c.size ≤ 1048576 := Nat.le_trans (HWs.out 2 (by simp)) hs
                      have HR : Hid (readL [fw3, b, c] = chk ⟨P, 3, false, modeS c, ⟨#[]⟩⟩) := by show _ = _; simp only [readL]; rw [if_neg (by decide)]; first | rw [if_pos rfl, HP.out, Option.bind_some] | simp only [if_true, HP.out, Option.bind_some]
                      go_wp2_with fail
                      refine (l3Mode_any c _).mono ?_
                      rintro e w6 ⟨rfl, rfl⟩
                      go_wp2_with fail
                      go_meet
                      exact ⟨true, 3, false, modeS c, ⟨#[]⟩, rfl, HR.out, (HI.out.what 3).mode (modeS c), rfl, modeS_wf c, by decide⟩
                    · have HD := hide (HDef.out ((read_same _).symm.trans (len_3 (b :: t) (by rw [List.length_cons]; omega))))
                      have hq : ((t.length : Int) + 1 + 1 == 3) = false := beq_eq_false_iff_ne.2 (by omega)
                      clear hn HDef
                      go_wp2_with fail
                      with_reducible refine ll_end (b := w.heap.size) (p := pa) (n := P.length) (c := pc) (i1 := 0) (b2 := false) (i3 := 0) (s4 := ⟨#[]⟩) (bb := false) ?h2 ?h3 ?hB ?hd ?h
                      case h2 => kernel_rfl
                      case h3 => kernel_rfl
                      case hB => exact put5_blk HI.out.res _ _ _ _ _
                      case hd => rfl
                      case h => exact HD.out _ (put5_below HI.out.below (Nat.le_refl _) _ _ _ _ _)
                  · skip
                    by_cases h4 : a = fw4
                    · subst h4
                      have t4 : fw4.toList = [100, 97, 116, 97] := by rw [Lib.toList_data]
                      by_cases hn : t.length + 2 = 3
                      · obtain ⟨c, rfl⟩ := List.length_eq_one_iff.1 (by omega : t.length = 1)
                        have g2 : w5.cell? ⟨gw, 2, none⟩ = some (.string c) := HWd.out 2 (by simp)
                        have hcz : c.size ≤ 1048576 := Nat.le_trans (HWs.out 2 (by simp)) hs
                        have HR : Hid (readL [fw4, b, c] = (bytesV c).bind (fun y => chk ⟨P, 4, false, 0, y⟩)) := by show _ = _; simp only [readL]; rw [if_neg (by decide), if_neg (by decide)]; first | rw [if_pos rfl, HP.out, Option.bind_some] | simp only [if_true, HP.out, Option.bind_some]
                        have HBs := hide (bytes_opt c hcz)
                        go_wp2_with fail
                        refine (l1Bytes_any c _ hcz).mono ?_
                        rintro e w6 ⟨rfl, hB6⟩
                        have HL6 := hide ((HI.out.what 4).after hB6)
                        have q4 := HL6.out.box.cell 4 _ rfl
                        have q5 := HL6.out.box.frozen 4
                        clear hB6
                        generalize hbv : bytesV c = bv at *
                        go_wp2_with fail
                        go_meet
                        refine ⟨bv.isSome, 4, false, 0, bv.getD ⟨#[]⟩, rfl, ?_, HL6.out.data _, rfl, rfl, HBs.out⟩
                        rw [HR.out]; cases bv <;> rfl
                      · have HD := hide (HDef.out ((read_same _).symm.trans (len_4 (b :: t) (by rw [List.length_cons]; omega))))
                        have hq : ((t.length : Int) + 1 + 1 == 3) = false := beq_eq_false_iff_ne.2 (by omega)
                        clear hn HDef
                        go_wp2_with fail
                        with_reducible refine ll_end (b := w.heap.size) (p := pa) (n := P.length) (c := pc) (i1 := 0) (b2 := false) (i3 := 0) (s4 := ⟨#[]⟩) (bb := false) ?h2 ?h3 ?hB ?hd ?h
                        case h2 => kernel_rfl
                        case h3 => kernel_rfl
                        case hB => exact put5_blk HI.out.res _ _ _ _ _
                        case hd => rfl
                        case h => exact HD.out _ (put5_below HI.out.below (Nat.le_refl _) _ _ _ _ _)
                    · have HD := hide (HDef.out ((read_same _).symm.trans (none_of (b :: t) h0 h1 h2 h3 h4)))
                      have e0 : ¬ a.toList = [103, 111, 110, 101] := fun e => h0 (toList_inj (e.trans (by rw [Lib.toList_data])))
                      have e0b : (a.toList == [103, 111, 110, 101]) = false := beq_eq_false_iff_ne.2 e0
                      have e1 : ¬ a.toList = [110, 101, 119, 100, 105, 114] := fun e => h1 (toList_inj (e.trans (by rw [Lib.toList_data])))
                      have e1b : (a.toList == [110, 101, 119, 100, 105, 114]) = false := beq_eq_false_iff_ne.2 e1
                      have e2 : ¬ a.toList = [110, 101, 119] := fun e => h2 (toList_inj (e.trans (by rw [Lib.toList_data])))
                      have e2b : (a.toList == [110, 101, 119]) = false := beq_eq_false_iff_ne.2 e2
                      have e3 : ¬ a.toList = [109, 111, 100, 101] := fun e => h3 (toList_inj (e.trans (by rw [Lib.toList_data])))
                      have e3b : (a.toList == [109, 111, 100, 101]) = false := beq_eq_false_iff_ne.2 e3
                      have e4 : ¬ a.toList = [100, 97, 116, 97] := fun e => h4 (toList_inj (e.trans (by rw [Lib.toList_data])))
                      have e4b : (a.toList == [100, 97, 116, 97]) = false := beq_eq_false_iff_ne.2 e4
                      clear h0 h1 h2 h3 h4 HDef
                      go_wp2_with fail
                      with_reducible refine ll_end (b := w.heap.size) (p := pa) (n := P.length) (c := pc) (i1 := 0) (b2 := false) (i3 := 0) (s4 := ⟨#[]⟩) (bb := false) ?h2 ?h3 ?hB ?hd ?h
                      case h2 => kernel_rfl
                      case h3 => kernel_rfl
                      case hB => exact put5_blk HI.out.res _ _ _ _ _
                      case hd => rfl
                      case h => exact HD.out _ (put5_below HI.out.below (Nat.le_refl _) _ _ _ _ _)
          case rest =>
            obtain ⟨okb, wt, d, m, x, rfl, HF⟩ := hcut
            rename World => w6
            have HI6 := hide HF.out.2.1
            clear HI HWd g0
            have HPa : Hid (∀ W, Aside w.heap.size w6 W → EntOk W (w1.heap.size + 1) W.heap.size ⟨P, wt, d, m, x⟩ pa pc) := fun W hb => by
              have ho := HI6.out.ord
              have hp : PthAt W (w1.heap.size + 1) pa pc P := HI6.out.path.same hb.size (fun k h1 h2 => hb.block k h2 (by omega))
              exact ⟨hp.strs, HF.out.2.2.1, HF.out.2.2.2.1, HF.out.2.2.2.2, hp.1.1, hp.1.2.1⟩
            have HEk : Hid (∀ W, Aside w.heap.size w6 W → Calls Tryd.prog 19 #[.agg #[.slice pa P.length pc, .int .i64 wt, .bool d, .int .i64 m, .string x]] W fun r w' => r = .returned (.bool (entB ⟨P, wt, d, m, x⟩)) ∧ Below W.heap.size W w') := fun W hb => l3EntryOk_any ⟨P, wt, d, m, x⟩ pa pc W _ _ (HPa.out W hb) (Nat.le_refl _)
            have HId : LlI w w1 gw pa pc P wt d m x w6.drew := HI6.out.after (Below.refl _ _).drew
            have HAd : Aside w.heap.size w6 w6.drew := (Aside.refl _ _).drew
            have hsz : s.size + (⟨#[10]⟩ : ByteArray).size ≤ maxLen := by show s.size + 1 ≤ _; unfold maxLen; omega
            have HNo : Hid (readL (a :: b :: t) = none → ∀ W, Below w.heap.size w W → Below w.heap.size w W ∧ LineL (readL (cutB 32 s)) w (.returned (.tuple #[.agg (arrE pa P.length pc wt d m x), .bool false])) W) := fun h W hb => ll_no (by rw [hws]; exact h) hb _ _ _ _ _ _ _
            go_upto_region 26 with fail
            have HEnd := hide (by assumption : ∀ (a : Act) (w : World), Code.wp Tryd.prog Code.ret _ a w → _)
            cases okb with
            | false =>
                have HNo := hide (HNo.out HF.out.1)
                refine wp_region_any (by kernel_rfl) ?_
                change wpAny _ _ _ _ _ _ _ (World.drew _)
                refine wpAny_take (i := 1) (v := .bool false) rfl (by kernel_rfl) (by kernel_rfl) (by kernel_rfl) (fun _ _ _ h => h) (Or.inl ⟨by kernel_rfl, y_move rfl (by kernel_rfl)⟩) ?_
                refine wpAny_take (i := 2) (v := .bool false) rfl (by kernel_rfl) (by kernel_rfl) (by kernel_rfl) (fun _ _ _ h => h) (Or.inl ⟨by kernel_rfl, y_move rfl (by kernel_rfl)⟩) ?_
                refine wpAny_take (i := 3) (v := undef) rfl (by kernel_rfl) (by kernel_rfl) (by kernel_rfl) (fun _ _ _ h => h) (Or.inr ⟨by kernel_rfl, rfl⟩) ?_
                refine wpAny_take (i := 4) (v := undef) rfl (by kernel_rfl) (by kernel_rfl) (by kernel_rfl) (fun _ _ _ h => h) (Or.inr ⟨by kernel_rfl, rfl⟩) ?_
                refine wpAny_take (i := 5) (v := .bool false) rfl (by kernel_rfl) (by kernel_rfl) (by kernel_rfl) (fun _ _ _ h => h) (Or.inl ⟨by kernel_rfl, y_pick_f rfl (by kernel_rfl)⟩) ?_
                refine wpAny_take (i := 6) (v := .bool false) rfl (by kernel_rfl) (by kernel_rfl) (by kernel_rfl) (fun _ _ _ h => h) (Or.inl ⟨by kernel_rfl, y_move rfl (by kernel_rfl)⟩) ?_
                refine wpAny_take (i := 7) (v := undef) rfl (by kernel_rfl) (by kernel_rfl) (by kernel_rfl) (fun _ _ _ h => h) (Or.inr ⟨by kernel_rfl, rfl⟩) ?_
                refine wpAny_take (i := 8) (v := undef) rfl (by kernel_rfl) (by kernel_rfl) (by kernel_rfl) (fun _ _ _ h => h) (Or.inr ⟨by kernel_rfl, rfl⟩) ?_
                refine wpAny_take (i := 9) (v := undef) rfl (by kernel_rfl) (by kernel_rfl) (by kernel_rfl) (fun _ _ _ h => h) (Or.inr ⟨by kernel_rfl, rfl⟩) ?_
                refine wpAny_take (i := 10) (v := undef) rfl (by kernel_rfl) (by kernel_rfl) (by kernel_rfl) (fun _ _ _ h => h) (Or.inr ⟨by kernel_rfl, rfl⟩) ?_
                refine wpAny_take (i := 11) (v := undef) rfl (by kernel_rfl) (by kernel_rfl) (by kernel_rfl) (fun _ _ _ h => h) (Or.inr ⟨by kernel_rfl, rfl⟩) ?_
                refine wpAny_take (i := 12) (v := .bool false) rfl (by kernel_rfl) (by kernel_rfl) (by kernel_rfl) (fun _ _ _ h => h) (Or.inl ⟨by kernel_rfl, y_pick_f rfl (by kernel_rfl)⟩) ?_
                refine wpAny_ready (rs := [0]) (by kernel_rfl) (by simp) ?_
                refine AllReady.cons rfl (fun K hK => ?_) AllReady.nil
                with_reducible refine st_load (x := 5) (b := w1.heap.size) (p := pa) (n := P.length) (c := pc) (i1 := wt) (b2 := d) (i3 := m) (s4 := x) ?hw ?ho ?ha ?hB ?h
                case hw => kernel_rfl
                case ho => rfl
                case ha => kernel_rfl
                case hB => exact HId.box
                case h =>
                  with_reducible refine hK _ _ ?_
                  clear hK K
                  refine wpAny_ready (rs := [13]) (by kernel_rfl) (by simp) ?_
                  refine AllReady.cons rfl (fun K hK => ?_) AllReady.nil
                  with_reducible refine st_store (x := 2) (y := 122) (b := w.heap.size) (p := pa) (n := P.length) (c := pc) (i1 := wt) (b2 := d) (i3 := m) (s4 := x) (p' := none) (n' := 0) (c' := 0) (i1' := 0) (b2' := false) (i3' := 0) (s4' := ⟨#[]⟩) ?hw ?ho ?ha ?hy ?hB ?h
                  case hw => kernel_rfl
                  case ho => rfl
                  case ha => kernel_rfl
                  case hy => kernel_rfl
                  case hB => exact HId.res
                  case h =>
                    with_reducible refine hK _ _ ?_
                    clear hK K
                    refine wpAny_ready (rs := [14]) (by kernel_rfl) (by simp) ?_
                    refine AllReady.cons rfl (fun K hK => ?_) AllReady.nil
                    with_reducible refine st_assign (x := 134) (v := .bool false) ?hw ?ho ?ha ?h
                    case hw => kernel_rfl
                    case ho => rfl
                    case ha => kernel_rfl
                    case h =>
                      with_reducible refine hK _ _ ?_
                      clear hK K
                      refine wpAny_done (by kernel_rfl) ?_ _
                      refine HEnd.out _ _ ?_
                      refine wp_ret ?_
                      change bodyPost Tryd.prog Tryd.f10 _ .ret _ _
                      with_reducible refine ll_end (b := w.heap.size) (p := pa) (n := P.length) (c := pc) (i1 := wt) (b2 := d) (i3 := m) (s4 := x) (bb := false) ?h2 ?h3 ?hB ?hd ?h
                      case h2 => kernel_rfl
                      case h3 => kernel_rfl
                      case hB => exact put5_blk HId.res _ _ _ _ _
                      case hd => kernel_rfl
                      case h => exact HNo.out _ (put5_below HId.below (Nat.le_refl _) _ _ _ _ _)
            | true =>
              cases hk : entB ⟨P, wt, d, m, x⟩ with
              | false =>
                rw [hk] at HEk
                have HNo := hide (HNo.out (by rw [HF.out.1, if_pos rfl, chk, if_neg (by rw [hk]; exact Bool.false_ne_true)]))
                refine wp_region_any (by kernel_rfl) ?_
                change wpAny _ _ _ _ _ _ _ (World.drew _)
                refine wpAny_take (i := 1) (v := .bool true) rfl (by kernel_rfl) (by kernel_rfl) (by kernel_rfl) (fun _ _ _ h => h) (Or.inl ⟨by kernel_rfl, y_move rfl (by kernel_rfl)⟩) ?_
                refine wpAny_take (i := 2) (v := .bool true) rfl (by kernel_rfl) (by kernel_rfl) (by kernel_rfl) (fun _ _ _ h => h) (Or.inl ⟨by kernel_rfl, y_move rfl (by kernel_rfl)⟩) ?_
                refine wpAny_ready (rs := [0, 3]) (by kernel_rfl) (by simp) ?_
                refine AllReady.cons rfl (fun K hK => ?_) ?_
                · skip
                  with_reducible refine st_load (x := 5) (b := w1.heap.size) (p := pa) (n := P.length) (c := pc) (i1 := wt) (b2 := d) (i3 := m) (s4 := x) ?hw ?ho ?ha ?hB ?h
                  case hw => kernel_rfl
                  case ho => rfl
                  case ha => kernel_rfl
                  case hB => exact HId.box
                  case h =>
                    with_reducible refine hK _ _ ?_
                    clear hK K
                    refine wpAny_ready (rs := [3]) (by kernel_rfl) (by simp) ?_
                    refine AllReady.cons rfl (fun K hK => ?_) AllReady.nil
                    with_reducible refine st_load (x := 5) (b := w1.heap.size) (p := pa) (n := P.length) (c := pc) (i1 := wt) (b2 := d) (i3 := m) (s4 := x) ?hw ?ho ?ha ?hB ?h
                    case hw => kernel_rfl
                    case ho => rfl
                    case ha => kernel_rfl
                    case hB => exact HId.box
                    case h =>
                      with_reducible refine hK _ _ ?_
                      clear hK K
                      refine wpAny_ready (rs := [4]) (by kernel_rfl) (by simp) ?_
                      refine AllReady.cons rfl (fun K hK => ?_) AllReady.nil
                      with_reducible refine st_call (x := 125) (f := 19) (t := 31) (v := .agg (arrE pa P.length pc wt d m x)) (u := .bool false) (P' := fun w' => Below w6.drew.heap.size w6.drew w') ?hw ?ho ?ha ?hf ?hc ?h
                      case hw => kernel_rfl
                      case ho => rfl
                      case ha => kernel_rfl
                      case hf => exact enters_of Tryd.func19 (by kernel_rfl) rfl
                      case hc => exact HEk.out _ HAd
                      case h =>
                        intro w7 h7
                        with_reducible refine hK _ _ ?_
                        clear hK K
                        refine wpAny_take (i := 5) (v := .bool false) rfl (by kernel_rfl) (by kernel_rfl) (by kernel_rfl) (fun _ _ _ h => h) (Or.inl ⟨by kernel_rfl, y_pick_t rfl (by kernel_rfl) (by kernel_rfl)⟩) ?_
                        refine wpAny_take (i := 6) (v := .bool false) rfl (by kernel_rfl) (by kernel_rfl) (by kernel_rfl) (fun _ _ _ h => h) (Or.inl ⟨by kernel_rfl, y_move rfl (by kernel_rfl)⟩) ?_
                        refine wpAny_take (i := 7) (v := undef) rfl (by kernel_rfl) (by kernel_rfl) (by kernel_rfl) (fun _ _ _ h => h) (Or.inr ⟨by kernel_rfl, rfl⟩) ?_
                        refine wpAny_take (i := 8) (v := undef) rfl (by kernel_rfl) (by kernel_rfl) (by kernel_rfl) (fun _ _ _ h => h) (Or.inr ⟨by kernel_rfl, rfl⟩) ?_
                        refine wpAny_take (i := 9) (v := undef) rfl (by kernel_rfl) (by kernel_rfl) (by kernel_rfl) (fun _ _ _ h => h) (Or.inr ⟨by kernel_rfl, rfl⟩) ?_
                        refine wpAny_take (i := 10) (v := undef) rfl (by kernel_rfl) (by kernel_rfl) (by kernel_rfl) (fun _ _ _ h => h) (Or.inr ⟨by kernel_rfl, rfl⟩) ?_
                        refine wpAny_take (i := 11) (v := undef) rfl (by kernel_rfl) (by kernel_rfl) (by kernel_rfl) (fun _ _ _ h => h) (Or.inr ⟨by kernel_rfl, rfl⟩) ?_
                        refine wpAny_take (i := 12) (v := .bool false) rfl (by kernel_rfl) (by kernel_rfl) (by kernel_rfl) (fun _ _ _ h => h) (Or.inl ⟨by kernel_rfl, y_pick_f rfl (by kernel_rfl)⟩) ?_
                        refine wpAny_ready (rs := [13]) (by kernel_rfl) (by simp) ?_
                        refine AllReady.cons rfl (fun K hK => ?_) AllReady.nil
                        with_reducible refine st_store (x := 2) (y := 122) (b := w.heap.size) (p := pa) (n := P.length) (c := pc) (i1 := wt) (b2 := d) (i3 := m) (s4 := x) (p' := none) (n' := 0) (c' := 0) (i1' := 0) (b2' := false) (i3' := 0) (s4' := ⟨#[]⟩) ?hw ?ho ?ha ?hy ?hB ?h
                        case hw => kernel_rfl
                        case ho => rfl
                        case ha => kernel_rfl
                        case hy => kernel_rfl
                        case hB => exact (HId.after h7).res
                        case h =>
                          with_reducible refine hK _ _ ?_
                          clear hK K
                          refine wpAny_ready (rs := [14]) (by kernel_rfl) (by simp) ?_
                          refine AllReady.cons rfl (fun K hK => ?_) AllReady.nil
                          with_reducible refine st_assign (x := 134) (v := .bool false) ?hw ?ho ?ha ?h
                          case hw => kernel_rfl
                          case ho => rfl
                          case ha => kernel_rfl
                          case h =>
                            with_reducible refine hK _ _ ?_
                            clear hK K
                            refine wpAny_done (by kernel_rfl) ?_ _
                            refine HEnd.out _ _ ?_
                            refine wp_ret ?_
                            change bodyPost Tryd.prog Tryd.f10 _ .ret _ _
                            with_reducible refine ll_end (b := w.heap.size) (p := pa) (n := P.length) (c := pc) (i1 := wt) (b2 := d) (i3 := m) (s4 := x) (bb := false) ?h2 ?h3 ?hB ?hd ?h
                            case h2 => kernel_rfl
                            case h3 => kernel_rfl
                            case hB => exact put5_blk (HId.after h7).res _ _ _ _ _
                            case hd => kernel_rfl
                            case h => exact HNo.out _ (put5_below (HId.after h7).below (Nat.le_refl _) _ _ _ _ _)
                refine AllReady.cons rfl (fun K hK => ?_) AllReady.nil
                with_reducible refine st_load (x := 5) (b := w1.heap.size) (p := pa) (n := P.length) (c := pc) (i1 := wt) (b2 := d) (i3 := m) (s4 := x) ?hw ?ho ?ha ?hB ?h
                case hw => kernel_rfl
                case ho => rfl
                case ha => kernel_rfl
                case hB => exact HId.box
                case h =>
                  with_reducible refine hK _ _ ?_
                  clear hK K
                  refine wpAny_ready (rs := [0, 4]) (by kernel_rfl) (by simp) ?_
                  refine AllReady.cons rfl (fun K hK => ?_) ?_
                  · skip
                    with_reducible refine st_load (x := 5) (b := w1.heap.size) (p := pa) (n := P.length) (c := pc) (i1 := wt) (b2 := d) (i3 := m) (s4 := x) ?hw ?ho ?ha ?hB ?h
                    case hw => kernel_rfl
                    case ho => rfl
                    case ha => kernel_rfl
                    case hB => exact HId.box
                    case h =>
                      with_reducible refine hK _ _ ?_
                      clear hK K
                      refine wpAny_ready (rs := [4]) (by kernel_rfl) (by simp) ?_
                      refine AllReady.cons rfl (fun K hK => ?_) AllReady.nil
                      with_reducible refine st_call (x := 125) (f := 19) (t := 31) (v := .agg (arrE pa P.length pc wt d m x)) (u := .bool false) (P' := fun w' => Below w6.drew.heap.size w6.drew w') ?hw ?ho ?ha ?hf ?hc ?h
                      case hw => kernel_rfl
                      case ho => rfl
                      case ha => kernel_rfl
                      case hf => exact enters_of Tryd.func19 (by kernel_rfl) rfl
                      case hc => exact HEk.out _ HAd
                      case h =>
                        intro w7 h7
                        with_reducible refine hK _ _ ?_
                        clear hK K
                        refine wpAny_take (i := 5) (v := .bool false) rfl (by kernel_rfl) (by kernel_rfl) (by kernel_rfl) (fun _ _ _ h => h) (Or.inl ⟨by kernel_rfl, y_pick_t rfl (by kernel_rfl) (by kernel_rfl)⟩) ?_
                        refine wpAny_take (i := 6) (v := .bool false) rfl (by kernel_rfl) (by kernel_rfl) (by kernel_rfl) (fun _ _ _ h => h) (Or.inl ⟨by kernel_rfl, y_move rfl (by kernel_rfl)⟩) ?_
                        refine wpAny_take (i := 7) (v := undef) rfl (by kernel_rfl) (by kernel_rfl) (by kernel_rfl) (fun _ _ _ h => h) (Or.inr ⟨by kernel_rfl, rfl⟩) ?_
                        refine wpAny_take (i := 8) (v := undef) rfl (by kernel_rfl) (by kernel_rfl) (by kernel_rfl) (fun _ _ _ h => h) (Or.inr ⟨by kernel_rfl, rfl⟩) ?_
                        refine wpAny_take (i := 9) (v := undef) rfl (by kernel_rfl) (by kernel_rfl) (by kernel_rfl) (fun _ _ _ h => h) (Or.inr ⟨by kernel_rfl, rfl⟩) ?_
                        refine wpAny_take (i := 10) (v := undef) rfl (by kernel_rfl) (by kernel_rfl) (by kernel_rfl) (fun _ _ _ h => h) (Or.inr ⟨by kernel_rfl, rfl⟩) ?_
                        refine wpAny_take (i := 11) (v := undef) rfl (by kernel_rfl) (by kernel_rfl) (by kernel_rfl) (fun _ _ _ h => h) (Or.inr ⟨by kernel_rfl, rfl⟩) ?_
                        refine wpAny_take (i := 12) (v := .bool false) rfl (by kernel_rfl) (by kernel_rfl) (by kernel_rfl) (fun _ _ _ h => h) (Or.inl ⟨by kernel_rfl, y_pick_f rfl (by kernel_rfl)⟩) ?_
                        refine wpAny_ready (rs := [13]) (by kernel_rfl) (by simp) ?_
                        refine AllReady.cons rfl (fun K hK => ?_) AllReady.nil
                        with_reducible refine st_store (x := 2) (y := 122) (b := w.heap.size) (p := pa) (n := P.length) (c := pc) (i1 := wt) (b2 := d) (i3 := m) (s4 := x) (p' := none) (n' := 0) (c' := 0) (i1' := 0) (b2' := false) (i3' := 0) (s4' := ⟨#[]⟩) ?hw ?ho ?ha ?hy ?hB ?h
                        case hw => kernel_rfl
                        case ho => rfl
                        case ha => kernel_rfl
                        case hy => kernel_rfl
                        case hB => exact (HId.after h7).res
                        case h =>
                          with_reducible refine hK _ _ ?_
                          clear hK K
                          refine wpAny_ready (rs := [14]) (by kernel_rfl) (by simp) ?_
                          refine AllReady.cons rfl (fun K hK => ?_) AllReady.nil
                          with_reducible refine st_assign (x := 134) (v := .bool false) ?hw ?ho ?ha ?h
                          case hw => kernel_rfl
                          case ho => rfl
                          case ha => kernel_rfl
                          case h =>
                            with_reducible refine hK _ _ ?_
                            clear hK K
                            refine wpAny_done (by kernel_rfl) ?_ _
                            refine HEnd.out _ _ ?_
                            refine wp_ret ?_
                            change bodyPost Tryd.prog Tryd.f10 _ .ret _ _
                            with_reducible refine ll_end (b := w.heap.size) (p := pa) (n := P.length) (c := pc) (i1 := wt) (b2 := d) (i3 := m) (s4 := x) (bb := false) ?h2 ?h3 ?hB ?hd ?h
                            case h2 => kernel_rfl
                            case h3 => kernel_rfl
                            case hB => exact put5_blk (HId.after h7).res _ _ _ _ _
                            case hd => kernel_rfl
                            case h => exact HNo.out _ (put5_below (HId.after h7).below (Nat.le_refl _) _ _ _ _ _)
                  refine AllReady.cons rfl (fun K hK => ?_) AllReady.nil
                  with_reducible refine st_call (x := 125) (f := 19) (t := 31) (v := .agg (arrE pa P.length pc wt d m x)) (u := .bool false) (P' := fun w' => Below w6.drew.heap.size w6.drew w') ?hw ?ho ?ha ?hf ?hc ?h
                  case hw => kernel_rfl
                  case ho => rfl
                  case ha => kernel_rfl
                  case hf => exact enters_of Tryd.func19 (by kernel_rfl) rfl
                  case hc => exact HEk.out _ HAd
                  case h =>
                    intro w7 h7
                    with_reducible refine hK _ _ ?_
                    clear hK K
                    refine wpAny_take (i := 5) (v := .bool false) rfl (by kernel_rfl) (by kernel_rfl) (by kernel_rfl) (fun _ _ _ h => h) (Or.inl ⟨by kernel_rfl, y_pick_t rfl (by kernel_rfl) (by kernel_rfl)⟩) ?_
                    refine wpAny_take (i := 6) (v := .bool false) rfl (by kernel_rfl) (by kernel_rfl) (by kernel_rfl) (fun _ _ _ h => h) (Or.inl ⟨by kernel_rfl, y_move rfl (by kernel_rfl)⟩) ?_
                    refine wpAny_take (i := 7) (v := undef) rfl (by kernel_rfl) (by kernel_rfl) (by kernel_rfl) (fun _ _ _ h => h) (Or.inr ⟨by kernel_rfl, rfl⟩) ?_
                    refine wpAny_take (i := 8) (v := undef) rfl (by kernel_rfl) (by kernel_rfl) (by kernel_rfl) (fun _ _ _ h => h) (Or.inr ⟨by kernel_rfl, rfl⟩) ?_
                    refine wpAny_take (i := 9) (v := undef) rfl (by kernel_rfl) (by kernel_rfl) (by kernel_rfl) (fun _ _ _ h => h) (Or.inr ⟨by kernel_rfl, rfl⟩) ?_
                    refine wpAny_take (i := 10) (v := undef) rfl (by kernel_rfl) (by kernel_rfl) (by kernel_rfl) (fun _ _ _ h => h) (Or.inr ⟨by kernel_rfl, rfl⟩) ?_
                    refine wpAny_take (i := 11) (v := undef) rfl (by kernel_rfl) (by kernel_rfl) (by kernel_rfl) (fun _ _ _ h => h) (Or.inr ⟨by kernel_rfl, rfl⟩) ?_
                    refine wpAny_take (i := 12) (v := .bool false) rfl (by kernel_rfl) (by kernel_rfl) (by kernel_rfl) (fun _ _ _ h => h) (Or.inl ⟨by kernel_rfl, y_pick_f rfl (by kernel_rfl)⟩) ?_
                    refine wpAny_ready (rs := [0]) (by kernel_rfl) (by simp) ?_
                    refine AllReady.cons rfl (fun K hK => ?_) AllReady.nil
                    with_reducible refine st_load (x := 5) (b := w1.heap.size) (p := pa) (n := P.length) (c := pc) (i1 := wt) (b2 := d) (i3 := m) (s4 := x) ?hw ?ho ?ha ?hB ?h
                    case hw => kernel_rfl
                    case ho => rfl
                    case ha => kernel_rfl
                    case hB => exact (HId.after h7).box
                    case h =>
                      with_reducible refine hK _ _ ?_
                      clear hK K
                      refine wpAny_ready (rs := [13]) (by kernel_rfl) (by simp) ?_
                      refine AllReady.cons rfl (fun K hK => ?_) AllReady.nil
                      with_reducible refine st_store (x := 2) (y := 122) (b := w.heap.size) (p := pa) (n := P.length) (c := pc) (i1 := wt) (b2 := d) (i3 := m) (s4 := x) (p' := none) (n' := 0) (c' := 0) (i1' := 0) (b2' := false) (i3' := 0) (s4' := ⟨#[]⟩) ?hw ?ho ?ha ?hy ?hB ?h
                      case hw => kernel_rfl
                      case ho => rfl
                      case ha => kernel_rfl
                      case hy => kernel_rfl
                      case hB => exact (HId.after h7).res
                      case h =>
                        with_reducible refine hK _ _ ?_
                        clear hK K
                        refine wpAny_ready (rs := [14]) (by kernel_rfl) (by simp) ?_
                        refine AllReady.cons rfl (fun K hK => ?_) AllReady.nil
                        with_reducible refine st_assign (x := 134) (v := .bool false) ?hw ?ho ?ha ?h
                        case hw => kernel_rfl
                        case ho => rfl
                        case ha => kernel_rfl
                        case h =>
                          with_reducible refine hK _ _ ?_
                          clear hK K
                          refine wpAny_done (by kernel_rfl) ?_ _
                          refine HEnd.out _ _ ?_
                          refine wp_ret ?_
                          change bodyPost Tryd.prog Tryd.f10 _ .ret _ _
                          with_reducible refine ll_end (b := w.heap.size) (p := pa) (n := P.length) (c := pc) (i1 := wt) (b2 := d) (i3 := m) (s4 := x) (bb := false) ?h2 ?h3 ?hB ?hd ?h
                          case h2 => kernel_rfl
                          case h3 => kernel_rfl
                          case hB => exact put5_blk (HId.after h7).res _ _ _ _ _
                          case hd => kernel_rfl
                          case h => exact HNo.out _ (put5_below (HId.after h7).below (Nat.le_refl _) _ _ _ _ _)
              | true =>
                rw [hk] at HEk
                have hF2 : readL (a :: b :: t) = some ⟨P, wt, d, m, x⟩ := by rw [HF.out.1, if_pos rfl, chk, if_pos hk]
                have HLn : Hid (lineE ⟨P, wt, d, m, x⟩ = s ++ ⟨#[10]⟩) := read_line (by rw [hws]; exact hF2)
                have HEt2 : Hid (∀ W, Aside w.heap.size w6 W → Calls Tryd.prog 20 #[.agg #[.slice pa P.length pc, .int .i64 wt, .bool d, .int .i64 m, .string x]] W fun r w' => r = .returned (.string (s ++ ⟨#[10]⟩)) ∧ Below W.heap.size W w') := fun W hb => by rw [← HLn.out]; exact l3Text_any ⟨P, wt, d, m, x⟩ pa pc W _ _ (HPa.out W hb) (Nat.le_refl _) hk
                have HYes : Hid (∀ W (lo : Nat), Below w.heap.size w W → PthAt W lo pa pc P → w.heap.size ≤ lo → Below w.heap.size w W ∧ LineL (readL (cutB 32 s)) w (.returned (.tuple #[.agg (arrE pa P.length pc wt d m x), .bool true])) W) := fun W lo hb hp hl => by
                  rw [hws, hF2]
                  exact ⟨hb, pa, pc, rfl, hp.low hl⟩
                refine wp_region_any (by kernel_rfl) ?_
                change wpAny _ _ _ _ _ _ _ (World.drew _)
                refine wpAny_take (i := 1) (v := .bool true) rfl (by kernel_rfl) (by kernel_rfl) (by kernel_rfl) (fun _ _ _ h => h) (Or.inl ⟨by kernel_rfl, y_move rfl (by kernel_rfl)⟩) ?_
                refine wpAny_take (i := 2) (v := .bool true) rfl (by kernel_rfl) (by kernel_rfl) (by kernel_rfl) (fun _ _ _ h => h) (Or.inl ⟨by kernel_rfl, y_move rfl (by kernel_rfl)⟩) ?_
                refine wpAny_ready (rs := [0, 3]) (by kernel_rfl) (by simp) ?_
                refine AllReady.cons rfl (fun K hK => ?_) ?_
                · skip
                  with_reducible refine st_load (x := 5) (b := w1.heap.size) (p := pa) (n := P.length) (c := pc) (i1 := wt) (b2 := d) (i3 := m) (s4 := x) ?hw ?ho ?ha ?hB ?h
                  case hw => kernel_rfl
                  case ho => rfl
                  case ha => kernel_rfl
                  case hB => exact HId.box
                  case h =>
                    with_reducible refine hK _ _ ?_
                    clear hK K
                    refine wpAny_ready (rs := [3]) (by kernel_rfl) (by simp) ?_
                    refine AllReady.cons rfl (fun K hK => ?_) AllReady.nil
                    with_reducible refine st_load (x := 5) (b := w1.heap.size) (p := pa) (n := P.length) (c := pc) (i1 := wt) (b2 := d) (i3 := m) (s4 := x) ?hw ?ho ?ha ?hB ?h
                    case hw => kernel_rfl
                    case ho => rfl
                    case ha => kernel_rfl
                    case hB => exact HId.box
                    case h =>
                      with_reducible refine hK _ _ ?_
                      clear hK K
                      refine wpAny_ready (rs := [4]) (by kernel_rfl) (by simp) ?_
                      refine AllReady.cons rfl (fun K hK => ?_) AllReady.nil
                      with_reducible refine st_call (x := 125) (f := 19) (t := 31) (v := .agg (arrE pa P.length pc wt d m x)) (u := .bool true) (P' := fun w' => Below w6.drew.heap.size w6.drew w') ?hw ?ho ?ha ?hf ?hc ?h
                      case hw => kernel_rfl
                      case ho => rfl
                      case ha => kernel_rfl
                      case hf => exact enters_of Tryd.func19 (by kernel_rfl) rfl
                      case hc => exact HEk.out _ HAd
                      case h =>
                        intro w7 h7
                        with_reducible refine hK _ _ ?_
                        clear hK K
                        refine wpAny_take (i := 5) (v := .bool true) rfl (by kernel_rfl) (by kernel_rfl) (by kernel_rfl) (fun _ _ _ h => h) (Or.inl ⟨by kernel_rfl, y_pick_t rfl (by kernel_rfl) (by kernel_rfl)⟩) ?_
                        refine wpAny_take (i := 6) (v := .bool true) rfl (by kernel_rfl) (by kernel_rfl) (by kernel_rfl) (fun _ _ _ h => h) (Or.inl ⟨by kernel_rfl, y_move rfl (by kernel_rfl)⟩) ?_
                        refine wpAny_take (i := 9) (v := .string s) rfl (by kernel_rfl) (by kernel_rfl) (by kernel_rfl) (fun _ _ _ h => h) (Or.inl ⟨by kernel_rfl, y_move rfl (by kernel_rfl)⟩) ?_
                        refine wpAny_take (i := 10) (v := .string (s ++ ⟨#[10]⟩)) rfl (by kernel_rfl) (by kernel_rfl) (by kernel_rfl) (fun _ _ _ h => h) (Or.inl ⟨by kernel_rfl, y_add rfl (by kernel_rfl) hsz⟩) ?_
                        refine wpAny_ready (rs := [7]) (by kernel_rfl) (by simp) ?_
                        refine AllReady.cons rfl (fun K hK => ?_) AllReady.nil
                        with_reducible refine st_load (x := 5) (b := w1.heap.size) (p := pa) (n := P.length) (c := pc) (i1 := wt) (b2 := d) (i3 := m) (s4 := x) ?hw ?ho ?ha ?hB ?h
                        case hw => kernel_rfl
                        case ho => rfl
                        case ha => kernel_rfl
                        case hB => exact (HId.after h7).box
                        case h =>
                          with_reducible refine hK _ _ ?_
                          clear hK K
                          refine wpAny_ready (rs := [8]) (by kernel_rfl) (by simp) ?_
                          refine AllReady.cons rfl (fun K hK => ?_) AllReady.nil
                          with_reducible refine st_call (x := 129) (f := 20) (t := 31) (v := .agg (arrE pa P.length pc wt d m x)) (u := .string (s ++ ⟨#[10]⟩)) (P' := fun w' => Below w7.heap.size w7 w') ?hw ?ho ?ha ?hf ?hc ?h
                          case hw => kernel_rfl
                          case ho => rfl
                          case ha => kernel_rfl
                          case hf => exact enters_of Tryd.func20 (by kernel_rfl) rfl
                          case hc => exact HEt2.out _ (HAd.below h7)
                          case h =>
                            intro w8 h8
                            with_reducible refine hK _ _ ?_
                            clear hK K
                            refine wpAny_take (i := 11) (v := .bool true) rfl (by kernel_rfl) (by kernel_rfl) (by kernel_rfl) (fun _ _ _ h => h) (Or.inl ⟨by kernel_rfl, y_eql (s := s ++ ⟨#[10]⟩) rfl (by kernel_rfl) (by kernel_rfl)⟩) ?_
                            refine wpAny_take (i := 12) (v := .bool true) rfl (by kernel_rfl) (by kernel_rfl) (by kernel_rfl) (fun _ _ _ h => h) (Or.inl ⟨by kernel_rfl, y_pick_t rfl (by kernel_rfl) (by kernel_rfl)⟩) ?_
                            refine wpAny_ready (rs := [13]) (by kernel_rfl) (by simp) ?_
                            refine AllReady.cons rfl (fun K hK => ?_) AllReady.nil
                            with_reducible refine st_store (x := 2) (y := 122) (b := w.heap.size) (p := pa) (n := P.length) (c := pc) (i1 := wt) (b2 := d) (i3 := m) (s4 := x) (p' := none) (n' := 0) (c' := 0) (i1' := 0) (b2' := false) (i3' := 0) (s4' := ⟨#[]⟩) ?hw ?ho ?ha ?hy ?hB ?h
                            case hw => kernel_rfl
                            case ho => rfl
                            case ha => kernel_rfl
                            case hy => kernel_rfl
                            case hB => exact ((HId.after h7).after h8).res
                            case h =>
                              with_reducible refine hK _ _ ?_
                              clear hK K
                              refine wpAny_ready (rs := [14]) (by kernel_rfl) (by simp) ?_
                              refine AllReady.cons rfl (fun K hK => ?_) AllReady.nil
                              with_reducible refine st_assign (x := 134) (v := .bool true) ?hw ?ho ?ha ?h
                              case hw => kernel_rfl
                              case ho => rfl
                              case ha => kernel_rfl
                              case h =>
                                with_reducible refine hK _ _ ?_
                                clear hK K
                                refine wpAny_done (by kernel_rfl) ?_ _
                                refine HEnd.out _ _ ?_
                                refine wp_ret ?_
                                change bodyPost Tryd.prog Tryd.f10 _ .ret _ _
                                with_reducible refine ll_end (b := w.heap.size) (p := pa) (n := P.length) (c := pc) (i1 := wt) (b2 := d) (i3 := m) (s4 := x) (bb := true) ?h2 ?h3 ?hB ?hd ?h
                                case h2 => kernel_rfl
                                case h3 => kernel_rfl
                                case hB => exact put5_blk ((HId.after h7).after h8).res _ _ _ _ _
                                case hd => kernel_rfl
                                case h => exact HYes.out _ _ (put5_below ((HId.after h7).after h8).below (Nat.le_refl _) _ _ _ _ _) (((HId.after h7).after h8).path.same (by rw [put5_size]; exact Nat.le_refl _) (fun k h1 _ => put5_other _ _ _ _ _ _ _ k (by have := ((HId.after h7).after h8).ord; omega))) (by have := ((HId.after h7).after h8).ord; omega)
                refine AllReady.cons rfl (fun K hK => ?_) AllReady.nil
                with_reducible refine st_load (x := 5) (b := w1.heap.size) (p := pa) (n := P.length) (c := pc) (i1 := wt) (b2 := d) (i3 := m) (s4 := x) ?hw ?ho ?ha ?hB ?h
                case hw => kernel_rfl
                case ho => rfl
                case ha => kernel_rfl
                case hB => exact HId.box
                case h =>
                  with_reducible refine hK _ _ ?_
                  clear hK K
                  refine wpAny_ready (rs := [0, 4]) (by kernel_rfl) (by simp) ?_
                  refine AllReady.cons rfl (fun K hK => ?_) ?_
                  · skip
                    with_reducible refine st_load (x := 5) (b := w1.heap.size) (p := pa) (n := P.length) (c := pc) (i1 := wt) (b2 := d) (i3 := m) (s4 := x) ?hw ?ho ?ha ?hB ?h
                    case hw => kernel_rfl
                    case ho => rfl
                    case ha => kernel_rfl
                    case hB => exact HId.box
                    case h =>
                      with_reducible refine hK _ _ ?_
                      clear hK K
                      refine wpAny_ready (rs := [4]) (by kernel_rfl) (by simp) ?_
                      refine AllReady.cons rfl (fun K hK => ?_) AllReady.nil
                      with_reducible refine st_call (x := 125) (f := 19) (t := 31) (v := .agg (arrE pa P.length pc wt d m x)) (u := .bool true) (P' := fun w' => Below w6.drew.heap.size w6.drew w') ?hw ?ho ?ha ?hf ?hc ?h
                      case hw => kernel_rfl
                      case ho => rfl
                      case ha => kernel_rfl
                      case hf => exact enters_of Tryd.func19 (by kernel_rfl) rfl
                      case hc => exact HEk.out _ HAd
                      case h =>
                        intro w7 h7
                        with_reducible refine hK _ _ ?_
                        clear hK K
                        refine wpAny_take (i := 5) (v := .bool true) rfl (by kernel_rfl) (by kernel_rfl) (by kernel_rfl) (fun _ _ _ h => h) (Or.inl ⟨by kernel_rfl, y_pick_t rfl (by kernel_rfl) (by kernel_rfl)⟩) ?_
                        refine wpAny_take (i := 6) (v := .bool true) rfl (by kernel_rfl) (by kernel_rfl) (by kernel_rfl) (fun _ _ _ h => h) (Or.inl ⟨by kernel_rfl, y_move rfl (by kernel_rfl)⟩) ?_
                        refine wpAny_take (i := 9) (v := .string s) rfl (by kernel_rfl) (by kernel_rfl) (by kernel_rfl) (fun _ _ _ h => h) (Or.inl ⟨by kernel_rfl, y_move rfl (by kernel_rfl)⟩) ?_
                        refine wpAny_take (i := 10) (v := .string (s ++ ⟨#[10]⟩)) rfl (by kernel_rfl) (by kernel_rfl) (by kernel_rfl) (fun _ _ _ h => h) (Or.inl ⟨by kernel_rfl, y_add rfl (by kernel_rfl) hsz⟩) ?_
                        refine wpAny_ready (rs := [7]) (by kernel_rfl) (by simp) ?_
                        refine AllReady.cons rfl (fun K hK => ?_) AllReady.nil
                        with_reducible refine st_load (x := 5) (b := w1.heap.size) (p := pa) (n := P.length) (c := pc) (i1 := wt) (b2 := d) (i3 := m) (s4 := x) ?hw ?ho ?ha ?hB ?h
                        case hw => kernel_rfl
                        case ho => rfl
                        case ha => kernel_rfl
                        case hB => exact (HId.after h7).box
                        case h =>
                          with_reducible refine hK _ _ ?_
                          clear hK K
                          refine wpAny_ready (rs := [8]) (by kernel_rfl) (by simp) ?_
                          refine AllReady.cons rfl (fun K hK => ?_) AllReady.nil
                          with_reducible refine st_call (x := 129) (f := 20) (t := 31) (v := .agg (arrE pa P.length pc wt d m x)) (u := .string (s ++ ⟨#[10]⟩)) (P' := fun w' => Below w7.heap.size w7 w') ?hw ?ho ?ha ?hf ?hc ?h
                          case hw => kernel_rfl
                          case ho => rfl
                          case ha => kernel_rfl
                          case hf => exact enters_of Tryd.func20 (by kernel_rfl) rfl
                          case hc => exact HEt2.out _ (HAd.below h7)
                          case h =>
                            intro w8 h8
                            with_reducible refine hK _ _ ?_
                            clear hK K
                            refine wpAny_take (i := 11) (v := .bool true) rfl (by kernel_rfl) (by kernel_rfl) (by kernel_rfl) (fun _ _ _ h => h) (Or.inl ⟨by kernel_rfl, y_eql (s := s ++ ⟨#[10]⟩) rfl (by kernel_rfl) (by kernel_rfl)⟩) ?_
                            refine wpAny_take (i := 12) (v := .bool true) rfl (by kernel_rfl) (by kernel_rfl) (by kernel_rfl) (fun _ _ _ h => h) (Or.inl ⟨by kernel_rfl, y_pick_t rfl (by kernel_rfl) (by kernel_rfl)⟩) ?_
                            refine wpAny_ready (rs := [13]) (by kernel_rfl) (by simp) ?_
                            refine AllReady.cons rfl (fun K hK => ?_) AllReady.nil
                            with_reducible refine st_store (x := 2) (y := 122) (b := w.heap.size) (p := pa) (n := P.length) (c := pc) (i1 := wt) (b2 := d) (i3 := m) (s4 := x) (p' := none) (n' := 0) (c' := 0) (i1' := 0) (b2' := false) (i3' := 0) (s4' := ⟨#[]⟩) ?hw ?ho ?ha ?hy ?hB ?h
                            case hw => kernel_rfl
                            case ho => rfl
                            case ha => kernel_rfl
                            case hy => kernel_rfl
                            case hB => exact ((HId.after h7).after h8).res
                            case h =>
                              with_reducible refine hK _ _ ?_
                              clear hK K
                              refine wpAny_ready (rs := [14]) (by kernel_rfl) (by simp) ?_
                              refine AllReady.cons rfl (fun K hK => ?_) AllReady.nil
                              with_reducible refine st_assign (x := 134) (v := .bool true) ?hw ?ho ?ha ?h
                              case hw => kernel_rfl
                              case ho => rfl
                              case ha => kernel_rfl
                              case h =>
                                with_reducible refine hK _ _ ?_
                                clear hK K
                                refine wpAny_done (by kernel_rfl) ?_ _
                                refine HEnd.out _ _ ?_
                                refine wp_ret ?_
                                change bodyPost Tryd.prog Tryd.f10 _ .ret _ _
                                with_reducible refine ll_end (b := w.heap.size) (p := pa) (n := P.length) (c := pc) (i1 := wt) (b2 := d) (i3 := m) (s4 := x) (bb := true) ?h2 ?h3 ?hB ?hd ?h
                                case h2 => kernel_rfl
                                case h3 => kernel_rfl
                                case hB => exact put5_blk ((HId.after h7).after h8).res _ _ _ _ _
                                case hd => kernel_rfl
                                case h => exact HYes.out _ _ (put5_below ((HId.after h7).after h8).below (Nat.le_refl _) _ _ _ _ _) (((HId.after h7).after h8).path.same (by rw [put5_size]; exact Nat.le_refl _) (fun k h1 _ => put5_other _ _ _ _ _ _ _ k (by have := ((HId.after h7).after h8).ord; omega))) (by have := ((HId.after h7).after h8).ord; omega)
                  refine AllReady.cons rfl (fun K hK => ?_) AllReady.nil
                  with_reducible refine st_call (x := 125) (f := 19) (t := 31) (v := .agg (arrE pa P.length pc wt d m x)) (u := .bool true) (P' := fun w' => Below w6.drew.heap.size w6.drew w') ?hw ?ho ?ha ?hf ?hc ?h
                  case hw => kernel_rfl
                  case ho => rfl
                  case ha => kernel_rfl
                  case hf => exact enters_of Tryd.func19 (by kernel_rfl) rfl
                  case hc => exact HEk.out _ HAd
                  case h =>
                    intro w7 h7
                    with_reducible refine hK _ _ ?_
                    clear hK K
                    refine wpAny_take (i := 5) (v := .bool true) rfl (by kernel_rfl) (by kernel_rfl) (by kernel_rfl) (fun _ _ _ h => h) (Or.inl ⟨by kernel_rfl, y_pick_t rfl (by kernel_rfl) (by kernel_rfl)⟩) ?_
                    refine wpAny_take (i := 6) (v := .bool true) rfl (by kernel_rfl) (by kernel_rfl) (by kernel_rfl) (fun _ _ _ h => h) (Or.inl ⟨by kernel_rfl, y_move rfl (by kernel_rfl)⟩) ?_
                    refine wpAny_take (i := 9) (v := .string s) rfl (by kernel_rfl) (by kernel_rfl) (by kernel_rfl) (fun _ _ _ h => h) (Or.inl ⟨by kernel_rfl, y_move rfl (by kernel_rfl)⟩) ?_
                    refine wpAny_take (i := 10) (v := .string (s ++ ⟨#[10]⟩)) rfl (by kernel_rfl) (by kernel_rfl) (by kernel_rfl) (fun _ _ _ h => h) (Or.inl ⟨by kernel_rfl, y_add rfl (by kernel_rfl) hsz⟩) ?_
                    refine wpAny_ready (rs := [0, 7]) (by kernel_rfl) (by simp) ?_
                    refine AllReady.cons rfl (fun K hK => ?_) ?_
                    · skip
                      with_reducible refine st_load (x := 5) (b := w1.heap.size) (p := pa) (n := P.length) (c := pc) (i1 := wt) (b2 := d) (i3 := m) (s4 := x) ?hw ?ho ?ha ?hB ?h
                      case hw => kernel_rfl
                      case ho => rfl
                      case ha => kernel_rfl
                      case hB => exact (HId.after h7).box
                      case h =>
                        with_reducible refine hK _ _ ?_
                        clear hK K
                        refine wpAny_ready (rs := [7]) (by kernel_rfl) (by simp) ?_
                        refine AllReady.cons rfl (fun K hK => ?_) AllReady.nil
                        with_reducible refine st_load (x := 5) (b := w1.heap.size) (p := pa) (n := P.length) (c := pc) (i1 := wt) (b2 := d) (i3 := m) (s4 := x) ?hw ?ho ?ha ?hB ?h
                        case hw => kernel_rfl
                        case ho => rfl
                        case ha => kernel_rfl
                        case hB => exact (HId.after h7).box
                        case h =>
                          with_reducible refine hK _ _ ?_
                          clear hK K
                          refine wpAny_ready (rs := [8]) (by kernel_rfl) (by simp) ?_
                          refine AllReady.cons rfl (fun K hK => ?_) AllReady.nil
                          with_reducible refine st_call (x := 129) (f := 20) (t := 31) (v := .agg (arrE pa P.length pc wt d m x)) (u := .string (s ++ ⟨#[10]⟩)) (P' := fun w' => Below w7.heap.size w7 w') ?hw ?ho ?ha ?hf ?hc ?h
                          case hw => kernel_rfl
                          case ho => rfl
                          case ha => kernel_rfl
                          case hf => exact enters_of Tryd.func20 (by kernel_rfl) rfl
                          case hc => exact HEt2.out _ (HAd.below h7)
                          case h =>
                            intro w8 h8
                            with_reducible refine hK _ _ ?_
                            clear hK K
                            refine wpAny_take (i := 11) (v := .bool true) rfl (by kernel_rfl) (by kernel_rfl) (by kernel_rfl) (fun _ _ _ h => h) (Or.inl ⟨by kernel_rfl, y_eql (s := s ++ ⟨#[10]⟩) rfl (by kernel_rfl) (by kernel_rfl)⟩) ?_
                            refine wpAny_take (i := 12) (v := .bool true) rfl (by kernel_rfl) (by kernel_rfl) (by kernel_rfl) (fun _ _ _ h => h) (Or.inl ⟨by kernel_rfl, y_pick_t rfl (by kernel_rfl) (by kernel_rfl)⟩) ?_
                            refine wpAny_ready (rs := [13]) (by kernel_rfl) (by simp) ?_
                            refine AllReady.cons rfl (fun K hK => ?_) AllReady.nil
                            with_reducible refine st_store (x := 2) (y := 122) (b := w.heap.size) (p := pa) (n := P.length) (c := pc) (i1 := wt) (b2 := d) (i3 := m) (s4 := x) (p' := none) (n' := 0) (c' := 0) (i1' := 0) (b2' := false) (i3' := 0) (s4' := ⟨#[]⟩) ?hw ?ho ?ha ?hy ?hB ?h
                            case hw => kernel_rfl
                            case ho => rfl
                            case ha => kernel_rfl
                            case hy => kernel_rfl
                            case hB => exact ((HId.after h7).after h8).res
                            case h =>
                              with_reducible refine hK _ _ ?_
                              clear hK K
                              refine wpAny_ready (rs := [14]) (by kernel_rfl) (by simp) ?_
                              refine AllReady.cons rfl (fun K hK => ?_) AllReady.nil
                              with_reducible refine st_assign (x := 134) (v := .bool true) ?hw ?ho ?ha ?h
                              case hw => kernel_rfl
                              case ho => rfl
                              case ha => kernel_rfl
                              case h =>
                                with_reducible refine hK _ _ ?_
                                clear hK K
                                refine wpAny_done (by kernel_rfl) ?_ _
                                refine HEnd.out _ _ ?_
                                refine wp_ret ?_
                                change bodyPost Tryd.prog Tryd.f10 _ .ret _ _
                                with_reducible refine ll_end (b := w.heap.size) (p := pa) (n := P.length) (c := pc) (i1 := wt) (b2 := d) (i3 := m) (s4 := x) (bb := true) ?h2 ?h3 ?hB ?hd ?h
                                case h2 => kernel_rfl
                                case h3 => kernel_rfl
                                case hB => exact put5_blk ((HId.after h7).after h8).res _ _ _ _ _
                                case hd => kernel_rfl
                                case h => exact HYes.out _ _ (put5_below ((HId.after h7).after h8).below (Nat.le_refl _) _ _ _ _ _) (((HId.after h7).after h8).path.same (by rw [put5_size]; exact Nat.le_refl _) (fun k h1 _ => put5_other _ _ _ _ _ _ _ k (by have := ((HId.after h7).after h8).ord; omega))) (by have := ((HId.after h7).after h8).ord; omega)
                    refine AllReady.cons rfl (fun K hK => ?_) AllReady.nil
                    with_reducible refine st_load (x := 5) (b := w1.heap.size) (p := pa) (n := P.length) (c := pc) (i1 := wt) (b2 := d) (i3 := m) (s4 := x) ?hw ?ho ?ha ?hB ?h
                    case hw => kernel_rfl
                    case ho => rfl
                    case ha => kernel_rfl
                    case hB => exact (HId.after h7).box
                    case h =>
                      with_reducible refine hK _ _ ?_
                      clear hK K
                      refine wpAny_ready (rs := [0, 8]) (by kernel_rfl) (by simp) ?_
                      refine AllReady.cons rfl (fun K hK => ?_) ?_
                      · skip
                        with_reducible refine st_load (x := 5) (b := w1.heap.size) (p := pa) (n := P.length) (c := pc) (i1 := wt) (b2 := d) (i3 := m) (s4 := x) ?hw ?ho ?ha ?hB ?h
                        case hw => kernel_rfl
                        case ho => rfl
                        case ha => kernel_rfl
                        case hB => exact (HId.after h7).box
                        case h =>
                          with_reducible refine hK _ _ ?_
                          clear hK K
                          refine wpAny_ready (rs := [8]) (by kernel_rfl) (by simp) ?_
                          refine AllReady.cons rfl (fun K hK => ?_) AllReady.nil
                          with_reducible refine st_call (x := 129) (f := 20) (t := 31) (v := .agg (arrE pa P.length pc wt d m x)) (u := .string (s ++ ⟨#[10]⟩)) (P' := fun w' => Below w7.heap.size w7 w') ?hw ?ho ?ha ?hf ?hc ?h
                          case hw => kernel_rfl
                          case ho => rfl
                          case ha => kernel_rfl
                          case hf => exact enters_of Tryd.func20 (by kernel_rfl) rfl
                          case hc => exact HEt2.out _ (HAd.below h7)
                          case h =>
                            intro w8 h8
                            with_reducible refine hK _ _ ?_
                            clear hK K
                            refine wpAny_take (i := 11) (v := .bool true) rfl (by kernel_rfl) (by kernel_rfl) (by kernel_rfl) (fun _ _ _ h => h) (Or.inl ⟨by kernel_rfl, y_eql (s := s ++ ⟨#[10]⟩) rfl (by kernel_rfl) (by kernel_rfl)⟩) ?_
                            refine wpAny_take (i := 12) (v := .bool true) rfl (by kernel_rfl) (by kernel_rfl) (by kernel_rfl) (fun _ _ _ h => h) (Or.inl ⟨by kernel_rfl, y_pick_t rfl (by kernel_rfl) (by kernel_rfl)⟩) ?_
                            refine wpAny_ready (rs := [13]) (by kernel_rfl) (by simp) ?_
                            refine AllReady.cons rfl (fun K hK => ?_) AllReady.nil
                            with_reducible refine st_store (x := 2) (y := 122) (b := w.heap.size) (p := pa) (n := P.length) (c := pc) (i1 := wt) (b2 := d) (i3 := m) (s4 := x) (p' := none) (n' := 0) (c' := 0) (i1' := 0) (b2' := false) (i3' := 0) (s4' := ⟨#[]⟩) ?hw ?ho ?ha ?hy ?hB ?h
                            case hw => kernel_rfl
                            case ho => rfl
                            case ha => kernel_rfl
                            case hy => kernel_rfl
                            case hB => exact ((HId.after h7).after h8).res
                            case h =>
                              with_reducible refine hK _ _ ?_
                              clear hK K
                              refine wpAny_ready (rs := [14]) (by kernel_rfl) (by simp) ?_
                              refine AllReady.cons rfl (fun K hK => ?_) AllReady.nil
                              with_reducible refine st_assign (x := 134) (v := .bool true) ?hw ?ho ?ha ?h
                              case hw => kernel_rfl
                              case ho => rfl
                              case ha => kernel_rfl
                              case h =>
                                with_reducible refine hK _ _ ?_
                                clear hK K
                                refine wpAny_done (by kernel_rfl) ?_ _
                                refine HEnd.out _ _ ?_
                                refine wp_ret ?_
                                change bodyPost Tryd.prog Tryd.f10 _ .ret _ _
                                with_reducible refine ll_end (b := w.heap.size) (p := pa) (n := P.length) (c := pc) (i1 := wt) (b2 := d) (i3 := m) (s4 := x) (bb := true) ?h2 ?h3 ?hB ?hd ?h
                                case h2 => kernel_rfl
                                case h3 => kernel_rfl
                                case hB => exact put5_blk ((HId.after h7).after h8).res _ _ _ _ _
                                case hd => kernel_rfl
                                case h => exact HYes.out _ _ (put5_below ((HId.after h7).after h8).below (Nat.le_refl _) _ _ _ _ _) (((HId.after h7).after h8).path.same (by rw [put5_size]; exact Nat.le_refl _) (fun k h1 _ => put5_other _ _ _ _ _ _ _ k (by have := ((HId.after h7).after h8).ord; omega))) (by have := ((HId.after h7).after h8).ord; omega)
                      refine AllReady.cons rfl (fun K hK => ?_) AllReady.nil
                      with_reducible refine st_call (x := 129) (f := 20) (t := 31) (v := .agg (arrE pa P.length pc wt d m x)) (u := .string (s ++ ⟨#[10]⟩)) (P' := fun w' => Below w7.heap.size w7 w') ?hw ?ho ?ha ?hf ?hc ?h
                      case hw => kernel_rfl
                      case ho => rfl
                      case ha => kernel_rfl
                      case hf => exact enters_of Tryd.func20 (by kernel_rfl) rfl
                      case hc => exact HEt2.out _ (HAd.below h7)
                      case h =>
                        intro w8 h8
                        with_reducible refine hK _ _ ?_
                        clear hK K
                        refine wpAny_take (i := 11) (v := .bool true) rfl (by kernel_rfl) (by kernel_rfl) (by kernel_rfl) (fun _ _ _ h => h) (Or.inl ⟨by kernel_rfl, y_eql (s := s ++ ⟨#[10]⟩) rfl (by kernel_rfl) (by kernel_rfl)⟩) ?_
                        refine wpAny_take (i := 12) (v := .bool true) rfl (by kernel_rfl) (by kernel_rfl) (by kernel_rfl) (fun _ _ _ h => h) (Or.inl ⟨by kernel_rfl, y_pick_t rfl (by kernel_rfl) (by kernel_rfl)⟩) ?_
                        refine wpAny_ready (rs := [0]) (by kernel_rfl) (by simp) ?_
                        refine AllReady.cons rfl (fun K hK => ?_) AllReady.nil
                        with_reducible refine st_load (x := 5) (b := w1.heap.size) (p := pa) (n := P.length) (c := pc) (i1 := wt) (b2 := d) (i3 := m) (s4 := x) ?hw ?ho ?ha ?hB ?h
                        case hw => kernel_rfl
                        case ho => rfl
                        case ha => kernel_rfl
                        case hB => exact ((HId.after h7).after h8).box
                        case h =>
                          with_reducible refine hK _ _ ?_
                          clear hK K
                          refine wpAny_ready (rs := [13]) (by kernel_rfl) (by simp) ?_
                          refine AllReady.cons rfl (fun K hK => ?_) AllReady.nil
                          with_reducible refine st_store (x := 2) (y := 122) (b := w.heap.size) (p := pa) (n := P.length) (c := pc) (i1 := wt) (b2 := d) (i3 := m) (s4 := x) (p' := none) (n' := 0) (c' := 0) (i1' := 0) (b2' := false) (i3' := 0) (s4' := ⟨#[]⟩) ?hw ?ho ?ha ?hy ?hB ?h
                          case hw => kernel_rfl
                          case ho => rfl
                          case ha => kernel_rfl
                          case hy => kernel_rfl
                          case hB => exact ((HId.after h7).after h8).res
                          case h =>
                            with_reducible refine hK _ _ ?_
                            clear hK K
                            refine wpAny_ready (rs := [14]) (by kernel_rfl) (by simp) ?_
                            refine AllReady.cons rfl (fun K hK => ?_) AllReady.nil
                            with_reducible refine st_assign (x := 134) (v := .bool true) ?hw ?ho ?ha ?h
                            case hw => kernel_rfl
                            case ho => rfl
                            case ha => kernel_rfl
                            case h =>
                              with_reducible refine hK _ _ ?_
                              clear hK K
                              refine wpAny_done (by kernel_rfl) ?_ _
                              refine HEnd.out _ _ ?_
                              refine wp_ret ?_
                              change bodyPost Tryd.prog Tryd.f10 _ .ret _ _
                              with_reducible refine ll_end (b := w.heap.size) (p := pa) (n := P.length) (c := pc) (i1 := wt) (b2 := d) (i3 := m) (s4 := x) (bb := true) ?h2 ?h3 ?hB ?hd ?h
                              case h2 => kernel_rfl
                              case h3 => kernel_rfl
                              case hB => exact put5_blk ((HId.after h7).after h8).res _ _ _ _ _
                              case hd => kernel_rfl
                              case h => exact HYes.out _ _ (put5_below ((HId.after h7).after h8).below (Nat.le_refl _) _ _ _ _ _) (((HId.after h7).after h8).path.same (by rw [put5_size]; exact Nat.le_refl _) (fun k h1 _ => put5_other _ _ _ _ _ _ _ k (by have := ((HId.after h7).after h8).ord; omega))) (by have := ((HId.after h7).after h8).ord; omega)
      · have n4 : ((b[0].toNat : Int) != 47) = true := by
          have : ¬ b[0].toNat = 47 := fun e => hb1 (UInt8.toNat_inj.1 e)
          simp; omega
        have hno : pathS b = none := by unfold pathS; rw [if_neg (by rw [hhd]; simpa using hb1)]
        have HNo := hide (no_path a b t hno)
        clear hno hhd hb1
        go_wp2_with fail
        with_reducible refine ll_end (b := w.heap.size) (p := none) (n := 0) (c := 0) (i1 := 0) (b2 := false) (i3 := 0) (s4 := ⟨#[]⟩) (bb := false) ?h2 ?h3 ?hB ?hd ?h
        case h2 => kernel_rfl
        case h3 => kernel_rfl
        case hB => exact put5_blk (HI1.out _ rfl).1.res _ _ _ _ _
        case hd => rfl
        case h => exact ll_no (by rw [hws]; exact HNo.out) (put5_below (HI1.out _ rfl).1.below (Nat.le_refl _) _ _ _ _ _) _ _ _ _ _ _ _

end Go.Proofs.YtkidfflmbfnogaaDoor
