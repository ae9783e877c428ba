/- For PagesDrop: what the shelf hands out. -/
import Derived.Test.YtnahpghbodmdbaaDoorPgSh
import Derived.Test.YtnahpghbodmdbaaDoorQIW
import Derived.Test.YtnahpghbodmdbaaDoorPgIR
namespace Go.Proofs.YtnahpghbodmdbaaDoor
open Go.RowKit

set_option maxHeartbeats 400000 in
theorem pages_any (sb : Nat) (w : World) (a a' : Option Addr) (n n' c c' : Nat) (h0 : w.cell? ⟨sb, 0, none⟩ = some (.slice a n c)) (h1 : w.cell? ⟨sb, 1, none⟩ = some (.slice a' n' c')) :
    Calls Tryd.prog 29 #[.pointer (some ⟨sb, 0, none⟩)] w fun e w' => e = .returned (.agg #[.slice a n c, .slice a' n' c']) ∧ Below w.heap.size w w' := by
  have HA : Hid (∀ o, Below w.heap.size w (w.alloc o)) := fun o => (Below.refl _ _).alloc (Nat.le_refl _) o
  go_enter Tryd.func29, Tryd.ntmps29
  go_wp2_with fail
  generalize hW : w.alloc (.cells #[.slice none 0 0, .slice none 0 0] 32) = W
  have HW : Hid (Below w.heap.size w W ∧ Blk W w.heap.size #[.slice none 0 0, .slice none 0 0] 32) := by subst hW; exact ⟨HA.out _, Blk.new _ _ _⟩
  have hsb := World.block_lt_of_cell? w _ h0
  have x0 : W.cell? ⟨sb, 0, none⟩ = some (.slice a n c) := (HW.out.1.cell (p := ⟨sb, 0, none⟩) hsb).trans h0
  have x1 : W.cell? ⟨sb, 1, none⟩ = some (.slice a' n' c') := (HW.out.1.cell (p := ⟨sb, 1, none⟩) hsb).trans h1
  have y0 := HW.out.2.cell 0 _ rfl
  have y1 := HW.out.2.cell 1 _ rfl
  have z0 := HW.out.2.frozen 0
  have z1 := HW.out.2.frozen 1
  clear hW h0 h1
  go_region
  go_wp2_with fail
  have hb : Below w.heap.size w ((W.drew.setCell ⟨w.heap.size, 0, none⟩ (.slice a n c)).setCell ⟨w.heap.size, 1, none⟩ (.slice a' n' c')) := (HW.out.1.drew.setCell (p := ⟨w.heap.size, 0, none⟩) (Nat.le_refl _) _).setCell (p := ⟨w.heap.size, 1, none⟩) (Nat.le_refl _) _
  refine bodyPost_ret (v := .agg #[.slice a n c, .slice a' n' c']) (by simp [results, Tryd.results29, go_sem, y0, y1]) rfl ⟨rfl, hb⟩

end Go.Proofs.YtnahpghbodmdbaaDoor
