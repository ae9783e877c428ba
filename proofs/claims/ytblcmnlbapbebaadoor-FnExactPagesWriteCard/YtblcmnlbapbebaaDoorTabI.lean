/- Itoa, where the library's table of tens lies. -/
import Derived.Test.YtblcmnlbapbebaaDoorSvD
import Derived.Test.YtblcmnlbapbebaaDoorShelf
import Derived.Lib.AppendIntMem
namespace Go.Proofs.YtblcmnlbapbebaaDoor
open Go.RowKit

/-- What the library's table reads as, here and wherever no block below B has turned. -/
def Tab (B : Nat) (w : World) : Prop := ∀ W, Below B w W → Lib.TabIs Tryd.prog W "internal/strconv.uint64pow10" .u64 Lib.pow10Tab
theorem Tab.keep {B : Nat} {w w' : World} (h : Tab B w) (hb : Below B w w') : Tab B w' := fun W hW => h W (hb.trans hW)
theorem itoa_any (n : Nat) (W : World) (B : Nat) (hT : Tab B W) (hn : n ≤ 1048576) : Calls Tryd.prog 35 #[.int .i64 (n : Int)] W fun e w' => e = .returned (.string (dgs n)) ∧ Below W.heap.size W w' :=
  (Tryd.strconv_Itoa n (by omega) (by omega) W (hT W (Below.refl _ _))).mono fun e w' ⟨h1, k, os, h2⟩ => ⟨by rw [h1, Go.Lib.itoa_nonneg]; rfl, by rw [h2]; exact Lib.below_grow _ _ (Nat.le_refl _) _ _⟩

end Go.Proofs.YtblcmnlbapbebaaDoor
