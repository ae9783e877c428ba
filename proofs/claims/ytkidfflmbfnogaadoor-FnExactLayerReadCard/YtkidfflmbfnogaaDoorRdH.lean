/- readEntry: of every line's words. -/
import Derived.Test.YtkidfflmbfnogaaDoorRdF
import Derived.Test.YtkidfflmbfnogaaDoorRdG
import Derived.Test.YtkidfflmbfnogaaDoorRdGm
import Derived.Test.YtkidfflmbfnogaaDoorRdGd
import Derived.Test.YtkidfflmbfnogaaDoorRdGp
namespace Go.Proofs.YtkidfflmbfnogaaDoor
open Go.RowKit

set_option maxRecDepth 100000 in
set_option maxHeartbeats 4000000 in
theorem entry_no (ad n cap : Nat) (a s : ByteArray) (wt : Int) (d m x ok : Bool) (w : World) (hlt : ad < w.heap.size) (hn1 : 1 ≤ n) (hn2 : n ≤ 1048577) (ha : w.cell? ⟨ad, 0, none⟩ = some (.string a)) (hF : FormsAt w)
    (hform : formN a = formT s wt d m x ok) (hno : ok = false ∨ (n : Int) ≠ 2 + (if m then 1 else 0) + (if x then 1 else 0)) :
    Calls Tryd.prog 12 #[.slice (some ⟨ad, 0, none⟩) n cap] w fun e w' => Below w.heap.size w w' ∧ ReadEn none w e w' := by
  have HFN : Hid (∀ W, FormsAt W → Calls Tryd.prog 22 #[.string a] W fun e w' => e = .returned (formT s wt d m x ok) ∧ Below W.heap.size W w') := fun W h => by
    have := formNamed_any a W h
    rwa [hform] at this
  have HFk : Hid (∀ W, Below w.heap.size w W → FormsAt W) := fun W h => hF.keep h
  have HA : Hid (∀ o, Below w.heap.size w (w.alloc o)) := fun o => (Below.refl _ _).alloc (Nat.le_refl _) o
  have g0 : ∀ o, (w.alloc o).cell? ⟨ad, 0, none⟩ = some (.string a) := fun o => ((HA.out o).cell (p := ⟨ad, 0, none⟩) hlt).trans ha
  have hni : (0 : Int) < (n : Int) := by omega
  clear hF hform ha
  have HFIN : Hid (∀ (W : World), Below w.heap.size w W → Below w.heap.size w W ∧ ReadEn none w (.returned (.tuple #[.agg zeroE', .bool false])) W) := fun W h => ⟨h, _, _, _, _, _, _, _, rfl⟩
  cases ok with
  | false =>
    clear hno
    go_enter Tryd.func12, Tryd.ntmps12
    go_wp2_with fail
    refine (HFN.out _ (HFk.out _ (HA.out _))).mono ?_
    rintro e w2 ⟨rfl, hB2⟩
    have HB2 : Hid (Below w.heap.size w w2) := (HA.out _).trans (hB2.mono (by simp))
    have b0 : Blk w2 w.heap.size zeroE' 31 := (Blk.new w _ _).below hB2 (by simp)
    have r0 := b0.cell 0 _ rfl
    have r1 := b0.cell 1 _ rfl
    have r2 := b0.cell 2 _ rfl
    have r3 := b0.cell 3 _ rfl
    have r4 := b0.cell 4 _ rfl
    have rf : ∀ j, w2.frozen? ⟨w.heap.size, j, none⟩ = false := fun j => b0.frozen j
    have hz3 : w.heap.size ≠ w2.heap.size := by have := b0.lt; omega
    have B0 := hide b0
    have hz2 : w.heap.size < w2.heap.size := b0.lt
    have HS : Hid (∀ W v0 v1 v2 v3 v4, Below w.heap.size w W → Below w.heap.size w (set5 W w.heap.size 0 v0 v1 v2 v3 v4)) := fun W v0 v1 v2 v3 v4 h => set5_below h (Nat.le_refl _) 0 v0 v1 v2 v3 v4
    clear hB2 b0
    go_wp2_with fail
    obtain ⟨V, hV⟩ : ∃ V, (set5 w2 w.heap.size 0 (.slice none 0 0) (.int .i64 0) (.bool false) (.int .i64 0) (.string ⟨#[]⟩)).alloc (.cells #[.string s, .int .i64 wt, .bool d, .bool m, .bool x] 48) = V := ⟨_, rfl⟩
    have HVB : Hid (Blk V w.heap.size zeroE' 31 ∧ Below w.heap.size w V) := by
      subst hV
      exact ⟨(((((B0.out.set 0 _).set 1 _).set 2 _).set 3 _).set 4 _).alloc _, (HS.out _ _ _ _ _ _ HB2.out).alloc (by simp [World.setCell]; omega) _⟩
    have q0 := HVB.out.1.cell 0 _ rfl
    have q1 := HVB.out.1.cell 1 _ rfl
    have q2 := HVB.out.1.cell 2 _ rfl
    have q3 := HVB.out.1.cell 3 _ rfl
    have q4 := HVB.out.1.cell 4 _ rfl
    rw [show ((((((w2.setCell ⟨w.heap.size, 0, none⟩ (.slice none 0 0)).setCell ⟨w.heap.size, 1, none⟩ (.int .i64 0)).setCell ⟨w.heap.size, 2, none⟩ (.bool false)).setCell ⟨w.heap.size, 3, none⟩ (.int .i64 0)).setCell ⟨w.heap.size, 4, none⟩ (.string ⟨#[]⟩)).alloc (.cells #[.string s, .int .i64 wt, .bool d, .bool m, .bool x] 48)) = V from hV]
    refine bodyPost_ret (v := .tuple #[.agg zeroE', .bool false]) (by simp [results, Tryd.results12, go_sem, q0, q1, q2, q3, q4]) rfl ?_
    exact HFIN.out _ HVB.out.2
  | true =>
    have hne : ((n : Int) != 2 + (if m then 1 else 0) + (if x then 1 else 0)) = true := by
      rcases hno with h | h
      · cases h
      · simpa using h
    clear hno
    go_enter Tryd.func12, Tryd.ntmps12
    go_wp2_with fail
    refine (HFN.out _ (HFk.out _ (HA.out _))).mono ?_
    rintro e w2 ⟨rfl, hB2⟩
    have HB2 : Hid (Below w.heap.size w w2) := (HA.out _).trans (hB2.mono (by simp))
    have b0 : Blk w2 w.heap.size zeroE' 31 := (Blk.new w _ _).below hB2 (by simp)
    have hz2 : w.heap.size < w2.heap.size := b0.lt
    clear hB2
    go_wp2_with fail
    refine (words_any s wt d m x _).mono ?_
    rintro e w4 ⟨rfl, hB4⟩
    have HB4 : Hid (Below w.heap.size w w4) := (HB2.out.alloc HB2.out.size _).trans (hB4.mono (by simp; omega))
    have b4 : Blk w4 w.heap.size zeroE' 31 := (b0.alloc _).below hB4 (by simp; omega)
    have r0 := b4.cell 0 _ rfl
    have r1 := b4.cell 1 _ rfl
    have r2 := b4.cell 2 _ rfl
    have r3 := b4.cell 3 _ rfl
    have r4 := b4.cell 4 _ rfl
    have rf : ∀ j, w4.frozen? ⟨w.heap.size, j, none⟩ = false := fun j => b4.frozen j
    have HS : Hid (∀ W v0 v1 v2 v3 v4, Below w.heap.size w W → Below w.heap.size w (set5 W w.heap.size 0 v0 v1 v2 v3 v4)) := fun W v0 v1 v2 v3 v4 h => set5_below h (Nat.le_refl _) 0 v0 v1 v2 v3 v4
    clear hB4 b0 b4
    generalize (2 + (if m then 1 else 0) + (if x then 1 else 0) : Int) = q at *
    go_wp2_with fail
    refine bodyPost_ret (v := .tuple #[.agg zeroE', .bool false]) (by simp [results, Tryd.results12, go_sem, r0, r1, r2, r3, r4]) rfl ?_
    exact HFIN.out _ (HS.out _ _ _ _ _ _ HB4.out)

end Go.Proofs.YtkidfflmbfnogaaDoor
