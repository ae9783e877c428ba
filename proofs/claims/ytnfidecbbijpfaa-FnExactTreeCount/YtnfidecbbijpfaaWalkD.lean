/- What walkParts is to keep to. -/
import Derived.Test.YtnfidecbbijpfaaProg
import Derived.Test.YtnfidecbbijpfaaWalkF
import Derived.Test.YtnfidecbbijpfaaWalkK
namespace Go.Proofs.Ytnfidecbbijpfaa
open Go.RowKit Go.Shelf

def YieldC (l n0 cb N : Nat) (J Jx : List Yv → World → Prop) : Prop :=
  ∀ (m : Nat) (pre : List Yv) (x : Yv) (W : World), J pre W → pre.length < N → YieldAt Fence.wide m Try.prog l x.encs W fun e W' =>
    (e = .returned (.bool true) ∧ J (pre ++ [x]) W' ∧ Kp n0 cb W W') ∨ (e = .returned (.bool false) ∧ Jx (pre ++ [x]) W')

/-- What comes of a walk over a tree. -/
def WalkR (n0 cb : Nat) (J Jx : List Yv → World → Prop) (pre : List Yv) (c p : Nat) (W : World) (e : Ending) (W' : World) : Prop :=
  (e = .returned (.bool true) ∧ ∃ ys, J (pre ++ ys) W' ∧ ys.length = c + 1 ∧ numY ys = c + p ∧ Kp n0 cb W W') ∨ (e = .returned (.bool false) ∧ ∃ q, Jx (pre ++ q) W')

def WalkC (l n0 cb N : Nat) (J Jx : List Yv → World → Prop) (n : Nat) : Prop :=
  ∀ (t : T n) (v : Value) (path : List ByteArray) (pv : Value) (pre : List Yv) (W : World) (lo hi hi' : Nat), AllGood n t → PRep W lo hi n t v → hi ≤ n0 → StrsAt W (cb + 1) hi' pv path → hi' ≤ W.heap.size →
    path.length + countT n t ≤ 1048576 → cb < W.heap.size → J pre W → pre.length + countT n t + 1 ≤ N →
    Calls Try.prog 39 #[v, pv, .func (.yield l) #[] #[]] W (WalkR n0 cb J Jx pre (countT n t) (if 0 < path.length then 1 else 0) W)

def WalkAll : Prop := ∀ (l n0 cb N : Nat) (J Jx : List Yv → World → Prop), n0 ≤ cb → (∀ s A B, J s A → Below A.heap.size A B → J s B) → YieldC l n0 cb N J Jx → ∀ n, WalkC l n0 cb N J Jx n

end Go.Proofs.Ytnfidecbbijpfaa
