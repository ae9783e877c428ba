/- walkParts of a file: it yields once. -/
import Derived.RangeFuncNested
import Derived.RangeFuncBound
import Derived.RangeFuncCalls
import Derived.RangeFuncLeaves
import Derived.Shelf.Abstract
import Derived.WalkKit
import Derived.OwnWalkIn
import Derived.TacticsInMore
import Derived.LoopIn
import Derived.Test.YtnfidecbbijpfaaProg
import Derived.Test.YtnfidecbbijpfaaCountLaw
import Derived.Test.YtnfidecbbijpfaaKid
namespace Go.Proofs.Ytnfidecbbijpfaa
open Go.RowKit Go.Shelf
attribute [local go_sem] Oper.semAt_some

set_option maxRecDepth 100000 in
set_option maxHeartbeats 2000000 in
theorem walkFile_in (F : Fence) (hd : F.depth = none) (h39 : F.fn 39) (hro : F.round = none) (n l : Nat) (b : Nat) (pa : Option Addr) (pl pc : Nat) (W : World) (Q1 Q2 : World → Prop)
    (hY : YieldAt F (n - 1) Try.prog l #[.slice pa pl pc, .iface 67 (.pointer (some ⟨b, 0, none⟩))] W fun e W' => (e = .returned (.bool true) ∧ Q1 W') ∨ (e = .returned (.bool false) ∧ Q2 W')) :
    CallsIn F n Try.prog 39 #[.iface 67 (.pointer (some ⟨b, 0, none⟩)), .slice pa pl pc, .func (.yield l) #[] #[]] W fun e W' => (e = .returned (.bool true) ∧ Q1 W') ∨ (e = .returned (.bool false) ∧ Q2 W') := by
  have hdd : ∀ k : Nat, (F.depth.isSome = true → 1 ≤ k) := fun k h => by rw [hd] at h; cases h
  obtain ⟨fn, tmps, assign, body, hy, hR⟩ := hY
  have t1 := ta_fd
  refine callsIn_of_wp Try.func39 rfl h39 ?_ hro
  simp only [Try.ntmps39, List.size_toArray, List.length_cons, List.length_nil, Nat.reduceAdd, Nat.reduceSub, Array.replicate_succ, Array.replicate_zero, List.push_toArray, List.append_toArray, List.nil_append, List.cons_append]
  gi_wp2_with ((try refine ⟨hdd _, ?_⟩); refine hR.mono ?_; clear hR; rintro e W2 (⟨rfl, hJ2⟩ | ⟨rfl, hx2⟩))
  · go_ret
    exact .inl ⟨rfl, hJ2⟩
  · go_ret
    exact .inr ⟨rfl, hx2⟩

end Go.Proofs.Ytnfidecbbijpfaa
