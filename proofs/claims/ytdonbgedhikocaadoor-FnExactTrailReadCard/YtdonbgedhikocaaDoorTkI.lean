/- The program's TrailOk. -/
import Derived.Test.YtdonbgedhikocaaDoorTrNew
namespace Go.Proofs.YtdonbgedhikocaaDoor
open Go.RowKit

set_option maxHeartbeats 1000000 in
theorem implTrailOk_any (l : List Mk) (v : Value) (w : World) (lo hi : Nat) (hv : McsAt w lo hi v l) (hhi : hi ≤ w.heap.size) :
    Calls Tryd.prog 15 #[v] w fun e w' => e = .returned (.bool (trailB l)) ∧ Below w.heap.size w w' := by
  have HC := hide (newTrail_any l v w lo hi hv hhi)
  obtain ⟨a, cap, rfl, _⟩ := hv
  generalize htb : trailB l = tb at HC ⊢
  clear htb
  go_enter Tryd.func15, Tryd.ntmps15
  go_wp2_with fail
  refine HC.out.mono ?_
  rintro e w1 ⟨po, rfl, hB, _⟩
  have HB := hide hB
  clear hB
  go_wp2_with fail
  go_ret
  exact ⟨rfl, HB.out⟩

end Go.Proofs.YtdonbgedhikocaaDoor
