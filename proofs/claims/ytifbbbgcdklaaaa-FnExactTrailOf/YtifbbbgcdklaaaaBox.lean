/- For the laws of a tree and a path: a copy of a path as long as its room; a tree in a box. -/
import Derived.Test.YtifbbbgcdklaaaaProg
import Derived.Test.YtifbbbgcdklaaaaTo
import Derived.Test.YtifbbbgcdklaaaaPRep
namespace Go.Proofs.Ytifbbbgcdklaaaa
open Go.RowKit

/-- A tree in a box B, its memory from lo on and below hi. -/
def RepBox (m : Nat) (u : T m) (c0 c1 c2 : Value) (B lo hi : Nat) (nv kv : Value) (W : World) : Prop := Blk W B #[c0, c1, c2, nv, kv] 34 ∧ Rep W lo hi m u nv kv ∧ hi ≤ W.heap.size
theorem RepBox.below {m : Nat} {u : T m} {c0 c1 c2 : Value} {B lo hi : Nat} {nv kv : Value} {W W' : World} (h : RepBox m u c0 c1 c2 B lo hi nv kv W) (hb : Below W.heap.size W W') : RepBox m u c0 c1 c2 B lo hi nv kv W' :=
  ⟨h.1.below hb h.1.lt, Rep.keep hb h.2.2 _ _ _ _ h.2.1, Nat.le_trans h.2.2 hb.size⟩
theorem RepBox.belowB {m : Nat} {u : T m} {c0 c1 c2 : Value} {B lo hi : Nat} {nv kv : Value} {W W' : World} (h : RepBox m u c0 c1 c2 B lo hi nv kv W) {X : Nat} (hb : Below X W W') (h1 : B < X) (h2 : hi ≤ X) : RepBox m u c0 c1 c2 B lo hi nv kv W' :=
  ⟨h.1.below hb h1, Rep.keep hb h2 _ _ _ _ h.2.1, Nat.le_trans h.2.2 hb.size⟩

end Go.Proofs.Ytifbbbgcdklaaaa
