/- Entries: the specification writes a new file's line. -/
import Derived.Test.YtkidfflmbfnogaaDoorEntT
import Derived.Deep.RegionLaw
namespace Go.Proofs.YtkidfflmbfnogaaDoor
open Go.RowKit

set_option maxRecDepth 100000 in
set_option maxHeartbeats 8000000 in
theorem l3Text_new (p : List ByteArray) (m : Int) (x : ByteArray) (sp sm sx : ByteArray) (pa : Option Addr) (pc : Nat) (w : World)
    (hp : sp.size ≤ 100) (hm : sm.size ≤ 100) (hx : sx.size ≤ 100)
    (hN : ∀ o, Calls Tryd.prog 32 #[.slice pa p.length pc] (w.alloc o) fun e w' => e = .returned (.string sp) ∧ w' = w.alloc o)
    (hD : ∀ W, Calls Tryd.prog 33 #[.int .i64 m] W fun e w' => e = .returned (.string sm) ∧ Below W.heap.size W w')
    (hX : ∀ W, Calls Tryd.prog 34 #[.string x] W fun e w' => e = .returned (.string sx) ∧ Below W.heap.size W w') :
    Calls Tryd.prog 20 #[.agg #[.slice pa p.length pc, .int .i64 2, .bool false, .int .i64 m, .string x]] w fun e w' => e = .returned (.string (lineQ 2 false sp sm sx)) ∧ Below w.heap.size w w' := by
  have HA : Hid (∀ o, Below w.heap.size w (w.alloc o)) := fun o => (Below.refl _ _).alloc (Nat.le_refl _) o
  have HW : ∀ (w1 : World), Below (w.alloc (.cells #[.slice pa p.length pc, .int .i64 2, .bool false, .int .i64 m, .string x] 31)).heap.size (w.alloc (.cells #[.slice pa p.length pc, .int .i64 2, .bool false, .int .i64 m, .string x] 31)) w1 → w1.cell? ⟨w.heap.size, 4, none⟩ = some (.string x) ∧ Hid (Below w.heap.size w w1) := by
    intro w1 hb
    refine ⟨?_, ?_⟩
    · exact ((Blk.new w #[.slice pa p.length pc, .int .i64 2, .bool false, .int .i64 m, .string x] 31).below hb (by simp)).cell 4 _ rfl
    · exact (HA.out _).trans (hb.mono (by simp))
  have k1 : ¬ 9223372036854775807 < 4 + sp.size := by omega
  have k2 : ¬ 9223372036854775807 < 4 + sp.size + 1 := by omega
  have k3 : ¬ 9223372036854775807 < 4 + sp.size + 1 + sm.size := by omega
  have k4 : ¬ 9223372036854775807 < 4 + sp.size + 1 + sm.size + 1 := by omega
  have k5 : ¬ 9223372036854775807 < 4 + sp.size + 1 + sm.size + 1 + sx.size := by omega
  have k6 : ¬ 9223372036854775807 < 4 + sp.size + 1 + sm.size + 1 + sx.size + 1 := by omega
  go_enter Tryd.func20, Tryd.ntmps20
  go_wp2_with (first | (go_at_call 32; refine (hN _).mono ?_; rintro e w' ⟨rfl, rfl⟩))
  go_region_law (first
    | (rw [if_pos (by simp [Region.wanted])]; go_simp; go_at_call 33; refine (hD _).mono ?_; rintro e w1 ⟨rfl, hb1⟩; obtain ⟨hc1, HB1⟩ := HW w1 (by first | exact hb1 | exact undrew hb1); clear hb1)
    | (rw [if_pos (by simp [Region.wanted])]; go_simp; go_at_call 34; refine (hX _).mono ?_; rintro e w2 ⟨rfl, hb2⟩; have HB2 : Hid (Below w.heap.size w w2) := HB1.out.trans (hb2.mono HB1.out.size); clear hb2)
    | (go_at_call 33; refine (hD _).mono ?_; rintro e w1 ⟨rfl, hb1⟩; obtain ⟨hc1, HB1⟩ := HW w1 (by first | exact hb1 | exact undrew hb1); clear hb1)
    | (go_at_call 34; refine (hX _).mono ?_; rintro e w2 ⟨rfl, hb2⟩; have HB2 : Hid (Below w.heap.size w w2) := HB1.out.trans (hb2.mono HB1.out.size); clear hb2))
  all_goals
    go_wp2_with fail
    go_ret
    exact ⟨rfl, HB2.out⟩

end Go.Proofs.YtkidfflmbfnogaaDoor
