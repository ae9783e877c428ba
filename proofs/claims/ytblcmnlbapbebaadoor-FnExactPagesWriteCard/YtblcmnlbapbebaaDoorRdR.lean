/- A drawn region within a round: the orders' law carries over from the wide fence; steps of it, one lemma an operation. -/
import Derived.Test.YtblcmnlbapbebaaDoorProg
import Derived.Test.YtblcmnlbapbebaaDoorRf
import Derived.OrdersIn
import Derived.TacticsIn
import Derived.BigRegionIn
import Derived.WalkKit
namespace Go.Proofs.YtblcmnlbapbebaaDoor
open Go.RowKit

section
variable {n : Nat} {P : Program} {md : Region.Mode} {ops : Array Oper} {Q : Exit → Act → World → Prop}

theorem upon_round (l : Nat) (o : Oper) (a : Act) (K : Act → World → Prop) (r : Result Next) : Oper.uponIn (Fence.wide.inRound l) n P o a K Q r = Oper.uponIn Fence.wide n P o a K Q r := by
  cases r with
  | ok x w => cases x <;> rfl
  | halt x w => cases x <;> rfl

theorem wpIn_round {l : Nat} {o : Oper} {a : Act} {w : World} {K : Act → World → Prop} (hd : ∀ c, o.op ≠ .defer c) (h : Oper.wpIn Fence.wide n P o a w K Q) : Oper.wpIn (Fence.wide.inRound l) n P o a w K Q := by
  unfold Oper.wpIn at *
  refine ⟨h.1, ?_⟩
  have h2 := h.2
  rw [upon_round]
  show Oper.uponIn Fence.wide n P o a K Q ((Oper.semAt (some l) a.eval o).run P w)
  rw [Oper.semAt_some l a.eval o hd]
  exact h2

def noDefer : Op → Bool
  | .defer _ => false
  | _ => true
theorem noDefer_out {ops : Array Oper} (h : ops.all (fun o => noDefer o.op) = true) (j : Nat) (o : Oper) (ho : ops[j]? = some o) (c : Call) : o.op ≠ .defer c := fun e => by
  obtain ⟨hj, rfl⟩ := Array.getElem?_eq_some_iff.1 ho
  have := (Array.all_eq_true.1 h) j hj
  rw [e] at this
  cases this

theorem any_round {l : Nat} (hd : ops.all (fun o => noDefer o.op) = true) : ∀ (fuel : Nat) (listed : Array Bool) (a : Act) (w : World), wpAnyIn Fence.wide n P md ops Q fuel listed a w → wpAnyIn (Fence.wide.inRound l) n P md ops Q fuel listed a w
  | 0, _, _, _, h => h
  | fuel + 1, listed, a, w, h => by
    refine ⟨h.1, fun i hi => ?_⟩
    have h1 := wpOpIn_mono (fun a' w' => any_round (l := l) hd fuel (listed.setIfInBounds i true) a' w') (h.2 i hi)
    unfold wpOpIn at *
    cases ho : ops[i]? with
    | none => rw [ho] at h1; exact h1
    | some o =>
      rw [ho] at h1
      simp only at h1 ⊢
      split at h1
      · rename_i hw; rw [if_pos hw]; exact wpIn_round (noDefer_out hd i o ho) h1
      · rename_i hw; rw [if_neg hw]; exact h1
end

section
variable {n : Nat} {ops : Array Oper} {o : Oper} {a : Act} {w : World} {K : Act → World → Prop} {Q : Exit → Act → World → Prop} {E : Prop}
theorem ri_load {x : Nat} {p : Addr} {i : Int} (hw : Region.wanted o (yielded ops a.tmps) = true) (ho : o.op = .load 3 (.tmp x)) (ha : a.tmps[x]?.getD undef = .pointer (some p)) (hc : w.cell? p = some (.int .i64 i)) (h : K (a.put o.dst (.int .i64 i)) w) :
    if Region.wanted o (yielded ops a.tmps) = true then Oper.wpIn Fence.wide n Tryd.prog o a w K Q else E := by
  rw [if_pos hw]
  have hr : (execOp a.eval o).run Tryd.prog w = .ok (.value (.int .i64 i)) w := by
    unfold execOp
    rw [ho]
    simp [ha, go_sem, hc]
  refine ⟨fun f hf => trivial, ?_⟩
  show Oper.uponIn Fence.wide n Tryd.prog o a K Q ((execOp a.eval o).run Tryd.prog w)
  rw [hr]
  exact h
theorem ri_store {x y : Nat} {p : Addr} {i j : Int} (hw : Region.wanted o (yielded ops a.tmps) = true) (ho : o.op = .store 3 (.tmp x) (.tmp y)) (ha : a.tmps[x]?.getD undef = .pointer (some p)) (hy : a.tmps[y]?.getD undef = .int .i64 j) (hc : w.cell? p = some (.int .i64 i)) (hf : w.frozen? p = false) (h : K (a.put o.dst undef) (w.setCell p (.int .i64 j))) :
    if Region.wanted o (yielded ops a.tmps) = true then Oper.wpIn Fence.wide n Tryd.prog o a w K Q else E := by
  rw [if_pos hw]
  have hr : (execOp a.eval o).run Tryd.prog w = .ok .skip (w.setCell p (.int .i64 j)) := by
    unfold execOp
    rw [ho]
    simp [ha, hy, go_sem, hc, hf]
  refine ⟨fun f hf => trivial, ?_⟩
  show Oper.uponIn Fence.wide n Tryd.prog o a K Q ((execOp a.eval o).run Tryd.prog w)
  rw [hr]
  exact h
theorem yi_move {x : Nat} {v : Value} (ho : o.op = .move (.tmp x)) (ha : a.tmps[x]?.getD undef = v) (w : World) : (execOp a.eval o).run Tryd.prog w = .ok (.value v) w := by
  unfold execOp
  rw [ho]
  simp [ha, go_sem]
theorem yi_sub {x y : Nat} {i j r : Int} (ho : o.op = .binOp .sub 3 (.tmp x) (.tmp y) 3) (ha : a.tmps[x]?.getD undef = .int .i64 i) (hy : a.tmps[y]?.getD undef = .int .i64 j) (hr : IntKind.i64.wrap (i - j) = r) (w : World) : (execOp a.eval o).run Tryd.prog w = .ok (.value (.int .i64 r)) w := by
  unfold execOp
  rw [ho]
  simp [ha, hy, go_sem, hr]
end
end Go.Proofs.YtblcmnlbapbebaaDoor
