/- readMark: a mark out of the words of a line. -/
import Derived.Deep.QuietTactic
import Derived.BigQuiet
import Derived.Test.YtdonbgedhikocaaDoorRdP
import Derived.Test.YtdonbgedhikocaaDoorLw
namespace Go.Proofs.YtdonbgedhikocaaDoor
open Go.RowKit

/-- What readMark gives. -/
def ReadM (ws : List ByteArray) (w : World) (e : Ending) (w' : World) : Prop := match markW pathR ws with
  | some m => ∃ (a : Option Addr) (cap : Nat), e = .returned (.tuple #[.agg #[.slice a m.path.length cap, .bool m.sub], .bool true]) ∧ w'.ownsRow w.heap.size 9 1 (.slice a m.path.length cap) m.path.length (m.path.map .string)
  | none => ∃ b : Bool, e = .returned (.tuple #[.agg #[.slice none 0 0, .bool b], .bool false])

theorem str_ne {a b : ByteArray} (h : a ≠ b) : (a.toList == b.toList) = false := by
  rw [beq_eq_false_iff_ne]
  exact fun e => h (toList_inj e)

set_option maxHeartbeats 1000000 in
theorem readMark_no (ad n cap : Nat) (ws : List ByteArray) (hn : ws.length = n) (hl : n ≠ 2) (w : World) :
    Calls Tryd.prog 14 #[.slice (some ⟨ad, 0, none⟩) n cap] w fun e w' => Below w.heap.size w w' ∧ ReadM ws w e w' := by
  have HM : Hid (markW pathR ws = none) := by
    show _ = _
    match ws, hn with
    | [], _ => rfl
    | [a], _ => rfl
    | [a, b], h => exact absurd h.symm hl
    | a :: b :: c :: r, _ => rfl
  have h1 : ((n : Int) != 2) = true := by simp; omega
  clear hl hn
  go_enter Tryd.func14, Tryd.ntmps14
  go_wp2
  refine bodyPost_ret (v := .tuple #[.agg #[.slice none 0 0, .bool false], .bool false]) (by simp [results, Tryd.results14, go_sem]) rfl ⟨(Below.refl _ _).alloc (Nat.le_refl _) _, ?_⟩
  unfold ReadM
  rw [HM.out]
  exact ⟨false, rfl⟩

theorem row_less {w : World} {b b' : Nat} {e : TypeId} {sz : Nat} {v : Value} {n : Nat} {xs : List Value} (h : w.ownsRow b e sz v n xs) (hb : b' ≤ b) : w.ownsRow b' e sz v n xs := by
  refine ⟨h.1, ?_⟩
  rcases h.2 with h1 | ⟨g, cap, cur, h1, h2, h3⟩
  · exact .inl h1
  · exact .inr ⟨g, cap, cur, h1, Nat.le_trans hb h2, h3⟩
theorem mark_cells {w w1 : World} {v0 v1 : Value} (h : Below (w.alloc (.cells #[v0, v1] 31)).heap.size (w.alloc (.cells #[v0, v1] 31)) w1) : Blk w1 w.heap.size #[v0, v1] 31 := (Blk.new w _ _).below h (by simp)

set_option maxRecDepth 100000 in
set_option maxHeartbeats 2000000 in
theorem readMark_two (ad cap : Nat) (a b : ByteArray) (w : World) (hlt : ad < w.heap.size) (ha : w.cell? ⟨ad, 0, none⟩ = some (.string a)) (hb : w.cell? ⟨ad, 1, none⟩ = some (.string b)) (hs : b.size ≤ 1048576) :
    Calls Tryd.prog 14 #[.slice (some ⟨ad, 0, none⟩) 2 cap] w fun e w' => Below w.heap.size w w' ∧ ReadM [a, b] w e w' := by
  have hA : ∀ o, (w.alloc o).cell? ⟨ad, 0, none⟩ = some (.string a) := fun o => by rw [World.cell?_alloc_old _ _ _ (by show ad ≠ _; omega)]; exact ha
  have hB : ∀ o, (w.alloc o).cell? ⟨ad, 1, none⟩ = some (.string b) := fun o => by rw [World.cell?_alloc_old _ _ _ (by show ad ≠ _; omega)]; exact hb
  have HA : Hid (∀ W, Below (w.heap.size + 1) (w.alloc (.cells #[.slice none 0 0, .bool false] 31)) W → W.cell? ⟨ad, 0, none⟩ = some (.string a)) := fun W h => (h.cell (p := ⟨ad, 0, none⟩) (by show ad < _; omega)).trans (hA _)
  have HRP : Hid (∀ W, Calls Tryd.prog 24 #[.string b] W fun e w' => Below W.heap.size W w' ∧ ReadP b W e w') := fun W => readPath_any b W hs
  clear ha hb hs
  by_cases h0 : a ≠ wAt ∧ a ≠ wSub
  · obtain ⟨h1, h2⟩ := h0
    have HM : Hid (markW pathR [a, b] = none) := by
      show _ = _
      simp only [markW]
      rw [if_neg h2, if_neg h1]
    have e1 : ¬ a.toList = [97, 116] := fun e => h1 (toList_inj (e.trans (by rw [Lib.toList_data])))
    have e2 : ¬ a.toList = [115, 117, 98] := fun e => h2 (toList_inj (e.trans (by rw [Lib.toList_data])))
    have e3 : (a.toList == [97, 116]) = false := beq_eq_false_iff_ne.2 e1
    have e4 : (a.toList == [115, 117, 98]) = false := beq_eq_false_iff_ne.2 e2
    have e5 : (a.toList != [97, 116]) = true := by simp [e1]
    have e6 : (a.toList != [115, 117, 98]) = true := by simp [e2]
    clear h1 h2
    go_enter Tryd.func14, Tryd.ntmps14
    go_wp2
    refine bodyPost_ret (v := .tuple #[.agg #[.slice none 0 0, .bool false], .bool false]) (by simp [results, Tryd.results14, go_sem]) rfl ⟨(Below.refl _ _).alloc (Nat.le_refl _) _, ?_⟩
    unfold ReadM
    rw [HM.out]
    exact ⟨false, rfl⟩
  · have hva : a = wAt ∨ a = wSub := by
      by_cases h2 : a = wSub
      · exact .inr h2
      · exact .inl (Classical.byContradiction fun h => h0 ⟨h, h2⟩)
    have HMs : Hid (markW pathR [a, b] = (pathR b).map (fun p => ⟨p, decide (a = wSub)⟩)) := by
      show _ = _
      simp only [markW]
      by_cases h2 : a = wSub
      · rw [if_pos h2]; simp [h2]
      · have h1 : a = wAt := Classical.byContradiction fun h => h0 ⟨h, h2⟩
        rw [if_neg h2, if_pos h1]; simp [h2]
    cases hp : pathR b with
    | none =>
      have HRN : Hid (∀ W, Calls Tryd.prog 24 #[.string b] W fun e w' => e = .returned (.tuple #[.slice none 0 0, .bool false]) ∧ Below W.heap.size W w') := fun W => (HRP.out W).mono fun e w' ⟨h1, h2⟩ => by
        unfold ReadP at h2; rw [hp] at h2; exact ⟨h2, h1⟩
      rw [hp] at HMs
      clear HRP hp
      have HE : Hid (∀ (w' : World) (bb : Bool), Below w.heap.size w w' → Below w.heap.size w w' ∧ ReadM [a, b] w (.returned (.tuple #[.agg #[.slice none 0 0, .bool bb], .bool false])) w') := fun w' bb h => ⟨h, by
        unfold ReadM; rw [HMs.out]; exact ⟨bb, rfl⟩⟩
      clear HMs
      have t1 : wAt.toList = [97, 116] := by rw [Lib.toList_data]
      have t2 : wSub.toList = [115, 117, 98] := by rw [Lib.toList_data]
      rcases hva with rfl | rfl
      · go_enter Tryd.func14, Tryd.ntmps14
        go_wp2_with (go_at_call 24; refine (HRN.out _).mono ?_; rintro e w1 ⟨rfl, hB1⟩; have HBk := mark_cells hB1; have c0 := HBk.cell 0 _ rfl; have c1 := HBk.cell 1 _ rfl; have f0 := HBk.frozen 0; have f1 := HBk.frozen 1; have hd := HA.out w1 (hB1.mono (by simp)); have hz : w.heap.size < w1.heap.size := HBk.lt; have HB1 : Hid (Below w.heap.size w w1) := ((Below.refl _ _).alloc (Nat.le_refl _) _).trans (hB1.mono (by simp)); clear hB1 HBk)
        refine bodyPost_ret (v := .tuple #[.agg #[.slice none 0 0, .bool false], .bool false]) (by simp [results, Tryd.results14, go_sem, c0, c1]) rfl ?_
        exact HE.out _ _ ((HB1.out.setCell (p := ⟨w.heap.size, 0, none⟩) (Nat.le_refl _) _).setCell (p := ⟨w.heap.size, 1, none⟩) (Nat.le_refl _) _)
      · go_enter Tryd.func14, Tryd.ntmps14
        go_wp2_with (go_at_call 24; refine (HRN.out _).mono ?_; rintro e w1 ⟨rfl, hB1⟩; have HBk := mark_cells hB1; have c0 := HBk.cell 0 _ rfl; have c1 := HBk.cell 1 _ rfl; have f0 := HBk.frozen 0; have f1 := HBk.frozen 1; have hd := HA.out w1 (hB1.mono (by simp)); have hz : w.heap.size < w1.heap.size := HBk.lt; have HB1 : Hid (Below w.heap.size w w1) := ((Below.refl _ _).alloc (Nat.le_refl _) _).trans (hB1.mono (by simp)); clear hB1 HBk)
        refine bodyPost_ret (v := .tuple #[.agg #[.slice none 0 0, .bool true], .bool false]) (by simp [results, Tryd.results14, go_sem, c0, c1]) rfl ?_
        exact HE.out _ _ ((HB1.out.setCell (p := ⟨w.heap.size, 0, none⟩) (Nat.le_refl _) _).setCell (p := ⟨w.heap.size, 1, none⟩) (Nat.le_refl _) _)
    | some p =>
      have HRY : Hid (∀ W, Calls Tryd.prog 24 #[.string b] W fun e w' => ∃ pa pc, e = .returned (.tuple #[.slice pa p.length pc, .bool true]) ∧ Below W.heap.size W w' ∧ w'.ownsRow W.heap.size 9 1 (.slice pa p.length pc) p.length (p.map .string)) := fun W => (HRP.out W).mono fun e w' ⟨h1, h2⟩ => by
        unfold ReadP at h2; rw [hp] at h2; obtain ⟨pa, pc, h3, h4⟩ := h2; exact ⟨pa, pc, h3, h1, h4⟩
      rw [hp] at HMs
      clear HRP hp
      have HE : Hid (∀ (w' : World) pa pc, Below w.heap.size w w' → w'.ownsRow w.heap.size 9 1 (.slice pa p.length pc) p.length (p.map .string) → Below w.heap.size w w' ∧ ReadM [a, b] w (.returned (.tuple #[.agg #[.slice pa p.length pc, .bool (decide (a = wSub))], .bool true])) w') := fun w' pa pc h h2 => ⟨h, by
        unfold ReadM; rw [HMs.out]; exact ⟨pa, pc, rfl, h2⟩⟩
      clear HMs
      have t1 : wAt.toList = [97, 116] := by rw [Lib.toList_data]
      have t2 : wSub.toList = [115, 117, 98] := by rw [Lib.toList_data]
      rcases hva with rfl | rfl
      · go_enter Tryd.func14, Tryd.ntmps14
        go_wp2_with (go_at_call 24; refine (HRY.out _).mono ?_; rintro e w1 ⟨pa, pc, rfl, hB1, hO⟩; have HBk := mark_cells hB1; have c0 := HBk.cell 0 _ rfl; have c1 := HBk.cell 1 _ rfl; have f0 := HBk.frozen 0; have f1 := HBk.frozen 1; have hd := HA.out w1 (hB1.mono (by simp)); have hz : w.heap.size < w1.heap.size := HBk.lt; have HB1 : Hid (Below w.heap.size w w1) := ((Below.refl _ _).alloc (Nat.le_refl _) _).trans (hB1.mono (by simp)); have HO : Hid (w1.ownsRow (w.heap.size + 1) 9 1 (.slice pa p.length pc) p.length (p.map .string)) := row_less hO (by simp); clear hO; clear hB1 HBk)
        have HF : Hid (∀ u v, Below w.heap.size w ((w1.setCell ⟨w.heap.size, 0, none⟩ u).setCell ⟨w.heap.size, 1, none⟩ v) ∧ ((w1.setCell ⟨w.heap.size, 0, none⟩ u).setCell ⟨w.heap.size, 1, none⟩ v).ownsRow w.heap.size 9 1 (.slice pa p.length pc) p.length (p.map .string)) := fun u v => ⟨(HB1.out.setCell (p := ⟨w.heap.size, 0, none⟩) (Nat.le_refl _) _).setCell (p := ⟨w.heap.size, 1, none⟩) (Nat.le_refl _) _, row_less (ownsRow_same HO.out (fun g hg => by
          have := row_aside HO.out g hg
          rw [Below.heap_setCell _ _ _ _ (by show g ≠ w.heap.size; omega), Below.heap_setCell _ _ _ _ (by show g ≠ w.heap.size; omega)])) (by omega)⟩
        refine bodyPost_ret (v := .tuple #[.agg #[.slice pa p.length pc, .bool false], .bool true]) (by simp [results, Tryd.results14, go_sem, c0, c1]) rfl ?_
        exact HE.out _ _ _ (HF.out _ _).1 (HF.out _ _).2
      · go_enter Tryd.func14, Tryd.ntmps14
        go_wp2_with (go_at_call 24; refine (HRY.out _).mono ?_; rintro e w1 ⟨pa, pc, rfl, hB1, hO⟩; have HBk := mark_cells hB1; have c0 := HBk.cell 0 _ rfl; have c1 := HBk.cell 1 _ rfl; have f0 := HBk.frozen 0; have f1 := HBk.frozen 1; have hd := HA.out w1 (hB1.mono (by simp)); have hz : w.heap.size < w1.heap.size := HBk.lt; have HB1 : Hid (Below w.heap.size w w1) := ((Below.refl _ _).alloc (Nat.le_refl _) _).trans (hB1.mono (by simp)); have HO : Hid (w1.ownsRow (w.heap.size + 1) 9 1 (.slice pa p.length pc) p.length (p.map .string)) := row_less hO (by simp); clear hO; clear hB1 HBk)
        have HF : Hid (∀ u v, Below w.heap.size w ((w1.setCell ⟨w.heap.size, 0, none⟩ u).setCell ⟨w.heap.size, 1, none⟩ v) ∧ ((w1.setCell ⟨w.heap.size, 0, none⟩ u).setCell ⟨w.heap.size, 1, none⟩ v).ownsRow w.heap.size 9 1 (.slice pa p.length pc) p.length (p.map .string)) := fun u v => ⟨(HB1.out.setCell (p := ⟨w.heap.size, 0, none⟩) (Nat.le_refl _) _).setCell (p := ⟨w.heap.size, 1, none⟩) (Nat.le_refl _) _, row_less (ownsRow_same HO.out (fun g hg => by
          have := row_aside HO.out g hg
          rw [Below.heap_setCell _ _ _ _ (by show g ≠ w.heap.size; omega), Below.heap_setCell _ _ _ _ (by show g ≠ w.heap.size; omega)])) (by omega)⟩
        refine bodyPost_ret (v := .tuple #[.agg #[.slice pa p.length pc, .bool true], .bool true]) (by simp [results, Tryd.results14, go_sem, c0, c1]) rfl ?_
        exact HE.out _ _ _ (HF.out _ _).1 (HF.out _ _).2

end Go.Proofs.YtdonbgedhikocaaDoor
