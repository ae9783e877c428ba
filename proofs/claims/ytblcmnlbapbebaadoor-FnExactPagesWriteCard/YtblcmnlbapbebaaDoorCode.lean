/- codeOf: the code of a refusal, 0 of no error. -/
import Derived.Test.YtblcmnlbapbebaaDoorProg
import Derived.Test.YtblcmnlbapbebaaDoorAsHit
namespace Go.Proofs.YtblcmnlbapbebaaDoor
open Go.RowKit

theorem Laid0.below {w w' : World} (h : Laid0 w) {B : Nat} (hb : Below B w w') (hB : 0 < B) : Laid0 w' := (hb.cell (p := ⟨0, 0, none⟩) hB).trans h
theorem Laid0.lt {w : World} (h : Laid0 w) : 0 < w.heap.size := by
  rcases Nat.eq_zero_or_pos w.heap.size with h0 | h1
  · unfold Laid0 at h; simp [World.cell?, h0] at h
  · exact h1

set_option maxHeartbeats 1000000 in
theorem codeOf_nil (w : World) : Calls Tryd.prog 17 #[.nilIface] w fun e w' => e = .returned (.int .i64 0) ∧ Below w.heap.size w w' := by
  go_enter Tryd.func17, Tryd.ntmps17
  go_wp2_with (go_at_call 33; refine (as_nil _ _).mono ?_; rintro e w' ⟨rfl, rfl⟩)
  go_ret
  exact ⟨rfl, (Below.refl _ _).alloc (Nat.le_refl _) _⟩

theorem as_below (w : World) (c : Int) : Below w.heap.size w (asWorld (w.alloc (.cells #[.int .i64 0] 70)) ⟨w.heap.size, 0, none⟩ c) := by
  unfold asWorld
  refine Below.setCell ?_ (by simp) _
  repeat (first | exact Below.refl _ _ | refine Below.alloc ?_ (by simp <;> omega) _)
theorem as_cell (w : World) (c : Int) : (asWorld (w.alloc (.cells #[.int .i64 0] 70)) ⟨w.heap.size, 0, none⟩ c).cell? ⟨w.heap.size, 0, none⟩ = some (.int .i64 c) := by
  unfold asWorld
  have h := ((((((Blk.new w #[.int .i64 0] 70).alloc (.cells #[.pointer (some ⟨w.heap.size, 0, none⟩)] 81)).alloc (.cells #[.pointer (some ⟨4, 81, none⟩), .pointer (some ⟨(w.alloc (.cells #[.int .i64 0] 70)).heap.size, 0, none⟩), .int .u64 150] 99)).alloc (.cells #[.pointer (some ⟨4, 81, none⟩), .pointer (some ⟨(w.alloc (.cells #[.int .i64 0] 70)).heap.size, 0, none⟩), .int .u64 150] 99)).alloc (.cells #[.int .i64 c] 70)).set 0 (.int .i64 c)).cell 0 _ rfl
  exact h

set_option maxHeartbeats 1000000 in
theorem codeOf_ref (c : Int) (w : World) (hg : Laid0 w) : Calls Tryd.prog 17 #[.iface 70 (.agg #[.int .i64 c])] w fun e w' => e = .returned (.int .i64 c) ∧ Below w.heap.size w w' := by
  have hb := Blk.new w #[.int .i64 0] 70
  have HA : Hid (Calls Tryd.prog 33 #[.iface 70 (.agg #[.int .i64 c]), .iface 81 (.pointer (some ⟨w.heap.size, 0, none⟩))] (w.alloc (.cells #[.int .i64 0] 70)) fun ev w' => ev = .returned (.bool true) ∧ Below w.heap.size w w' ∧ w'.cell? ⟨w.heap.size, 0, none⟩ = some (.int .i64 c)) :=
    (as_hit ⟨w.heap.size, 0, none⟩ c (.int .i64 0) _ (hg.below ((Below.refl _ _).alloc (Nat.le_refl _) _) hg.lt) (hb.cell 0 _ rfl) (hb.frozen 0)).mono fun e w' ⟨h1, h2⟩ => by subst h2; exact ⟨h1, as_below w c, as_cell w c⟩
  clear hb hg
  go_enter Tryd.func17, Tryd.ntmps17
  go_wp2_with (go_at_call 33; refine HA.out.mono ?_; rintro e w1 ⟨rfl, hB, hc⟩; have HB := hide hB; clear hB)
  go_ret
  exact ⟨rfl, HB.out⟩

end Go.Proofs.YtblcmnlbapbebaaDoor
