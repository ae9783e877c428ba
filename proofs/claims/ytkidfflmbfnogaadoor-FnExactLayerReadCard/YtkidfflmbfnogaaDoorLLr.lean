/- Steps of a drawn region, one lemma an operation: a load and a store of an entry, a call; the result of l3Line. -/
import Derived.Test.YtkidfflmbfnogaaDoorEnts
import Derived.Test.YtkidfflmbfnogaaDoorLow
import Derived.BigRegion
import Derived.Deep.RegionWith
import Derived.WalkKit
namespace Go.Proofs.YtkidfflmbfnogaaDoor
open Go.RowKit

abbrev put5 (w : World) (g : Nat) (v0 v1 v2 v3 v4 : Value) : World := ((((w.setCell ⟨g, 0, none⟩ v0).setCell ⟨g, 1, none⟩ v1).setCell ⟨g, 2, none⟩ v2).setCell ⟨g, 3, none⟩ v3).setCell ⟨g, 4, none⟩ v4
abbrev arrE (p : Option Addr) (n c : Nat) (i1 : Int) (b2 : Bool) (i3 : Int) (s4 : ByteArray) : Array Value := #[.slice p n c, .int .i64 i1, .bool b2, .int .i64 i3, .string s4]

section
variable {ops : Array Oper} {o : Oper} {a : Act} {w : World} {K : Act → World → Prop} {Q : Exit → Act → World → Prop} {E : Prop}

theorem st_load {x : Nat} {b : Nat} {p : Option Addr} {n c : Nat} {i1 i3 : Int} {b2 : Bool} {s4 : ByteArray} (hw : Region.wanted o (yielded ops a.tmps) = true) (ho : o.op = .load 31 (.tmp x)) (ha : a.tmps[x]?.getD undef = .pointer (some ⟨b, 0, none⟩))
    (hB : Blk w b (arrE p n c i1 b2 i3 s4) 31) (h : K (a.put o.dst (.agg (arrE p n c i1 b2 i3 s4))) w) : if Region.wanted o (yielded ops a.tmps) = true then Oper.wp Tryd.prog o a w K Q else E := by
  rw [if_pos hw]
  have c0 : w.cell? ⟨b, 0, none⟩ = some (.slice p n c) := hB.cell 0 _ rfl
  have c1 : w.cell? ⟨b, 1, none⟩ = some (.int .i64 i1) := hB.cell 1 _ rfl
  have c2 : w.cell? ⟨b, 2, none⟩ = some (.bool b2) := hB.cell 2 _ rfl
  have c3 : w.cell? ⟨b, 3, none⟩ = some (.int .i64 i3) := hB.cell 3 _ rfl
  have c4 : w.cell? ⟨b, 4, none⟩ = some (.string s4) := hB.cell 4 _ rfl
  have hr : (execOp a.eval o).run Tryd.prog w = .ok (.value (.agg (arrE p n c i1 b2 i3 s4))) w := by
    unfold execOp
    rw [ho]
    simp [ha, go_sem, c0, c1, c2, c3, c4]
  unfold Oper.wp
  rw [hr]
  exact h

theorem st_store {x y : Nat} {b : Nat} {p p' : Option Addr} {n c n' c' : Nat} {i1 i3 i1' i3' : Int} {b2 b2' : Bool} {s4 s4' : ByteArray} (hw : Region.wanted o (yielded ops a.tmps) = true) (ho : o.op = .store 31 (.tmp x) (.tmp y)) (ha : a.tmps[x]?.getD undef = .pointer (some ⟨b, 0, none⟩))
    (hy : a.tmps[y]?.getD undef = .agg (arrE p n c i1 b2 i3 s4)) (hB : Blk w b (arrE p' n' c' i1' b2' i3' s4') 31) (h : K (a.put o.dst undef) (put5 w b (.slice p n c) (.int .i64 i1) (.bool b2) (.int .i64 i3) (.string s4))) : if Region.wanted o (yielded ops a.tmps) = true then Oper.wp Tryd.prog o a w K Q else E := by
  rw [if_pos hw]
  have c0 : w.cell? ⟨b, 0, none⟩ = some (.slice p' n' c') := hB.cell 0 _ rfl
  have c1 : w.cell? ⟨b, 1, none⟩ = some (.int .i64 i1') := hB.cell 1 _ rfl
  have c2 : w.cell? ⟨b, 2, none⟩ = some (.bool b2') := hB.cell 2 _ rfl
  have c3 : w.cell? ⟨b, 3, none⟩ = some (.int .i64 i3') := hB.cell 3 _ rfl
  have c4 : w.cell? ⟨b, 4, none⟩ = some (.string s4') := hB.cell 4 _ rfl
  have f0 := hB.frozen 0
  have f1 := hB.frozen 1
  have f2 := hB.frozen 2
  have f3 := hB.frozen 3
  have f4 := hB.frozen 4
  have hr : (execOp a.eval o).run Tryd.prog w = .ok .skip (put5 w b (.slice p n c) (.int .i64 i1) (.bool b2) (.int .i64 i3) (.string s4)) := by
    unfold execOp
    rw [ho]
    simp [ha, hy, go_sem, c0, c1, c2, c3, c4, f0, f1, f2, f3, f4]
  unfold Oper.wp
  rw [hr]
  exact h

theorem st_call {x f t : Nat} {v u : Value} {P' : World → Prop} (hw : Region.wanted o (yielded ops a.tmps) = true) (ho : o.op = .call { callee := .value (.func f), args := #[.tmp x], argTypes := #[t] }) (ha : a.tmps[x]?.getD undef = v)
    (hf : ∀ args W, (callFunc f args).run Tryd.prog W = .ok (.enter f args) W) (hc : Calls Tryd.prog f #[v] w fun e w' => e = .returned u ∧ P' w') (h : ∀ w', P' w' → K (a.put o.dst u) w') : if Region.wanted o (yielded ops a.tmps) = true then Oper.wp Tryd.prog o a w K Q else E := by
  rw [if_pos hw]
  have hr : (execOp a.eval o).run Tryd.prog w = .ok (.enter f #[v]) w := by
    unfold execOp
    rw [ho]
    simp [ha, go_sem, hf]
  unfold Oper.wp
  rw [hr, Oper.upon_enter]
  refine hc.mono ?_
  rintro e w' ⟨rfl, hp⟩
  exact h w' hp

theorem st_assign {x : Nat} {v : Value} (hw : Region.wanted o (yielded ops a.tmps) = true) (ho : o.op = .assign (.tmp x)) (ha : a.tmps[x]?.getD undef = v) (h : K (a.put o.dst v) w) : if Region.wanted o (yielded ops a.tmps) = true then Oper.wp Tryd.prog o a w K Q else E := by
  rw [if_pos hw]
  have hr : (execOp a.eval o).run Tryd.prog w = .ok (.value v) w := by
    unfold execOp
    rw [ho]
    simp [ha, go_sem]
  unfold Oper.wp
  rw [hr]
  exact h

theorem y_move {x : Nat} {v : Value} (ho : o.op = .move (.tmp x)) (ha : a.tmps[x]?.getD undef = v) (w : World) : (execOp a.eval o).run Tryd.prog w = .ok (.value v) w := by
  unfold execOp
  rw [ho]
  simp [ha, go_sem]
theorem y_pick_t {x y : Nat} {c v : Value} (ho : o.op = .pick (.tmp x) (.tmp y) (.const c)) (ha : a.tmps[x]?.getD undef = .bool true) (hy : a.tmps[y]?.getD undef = v) (w : World) : (execOp a.eval o).run Tryd.prog w = .ok (.value v) w := by
  unfold execOp
  rw [ho]
  simp [ha, hy, go_sem]
theorem y_pick_f {x y : Nat} {c : Value} (ho : o.op = .pick (.tmp x) (.tmp y) (.const c)) (ha : a.tmps[x]?.getD undef = .bool false) (w : World) : (execOp a.eval o).run Tryd.prog w = .ok (.value c) w := by
  unfold execOp
  rw [ho]
  simp [ha, go_sem]
theorem y_add {x : Nat} {s c : ByteArray} (ho : o.op = .binOp .add 9 (.tmp x) (.const (.string c)) 9) (ha : a.tmps[x]?.getD undef = .string s) (hs : s.size + c.size ≤ maxLen) (w : World) : (execOp a.eval o).run Tryd.prog w = .ok (.value (.string (s ++ c))) w := by
  unfold maxLen at hs
  unfold execOp
  rw [ho]
  simp [ha, go_sem]
  try omega
theorem y_eql {x y : Nat} {s : ByteArray} (ho : o.op = .binOp .eql 9 (.tmp x) (.tmp y) 9) (ha : a.tmps[x]?.getD undef = .string s) (hy : a.tmps[y]?.getD undef = .string s) (w : World) : (execOp a.eval o).run Tryd.prog w = .ok (.value (.bool true)) w := by
  unfold execOp
  rw [ho]
  simp [ha, hy, go_sem]

theorem ll_end {R : Ending → World → Prop} {b : Nat} {p : Option Addr} {n c : Nat} {i1 i3 : Int} {b2 bb : Bool} {s4 : ByteArray} (h2 : a.tmps[2]?.getD undef = .pointer (some ⟨b, 0, none⟩)) (h3 : a.tmps[3]?.getD undef = .bool bb)
    (hB : Blk w b (arrE p n c i1 b2 i3 s4) 31) (hd : a.defers = []) (h : R (.returned (.tuple #[.agg (arrE p n c i1 b2 i3 s4), .bool bb])) w) : bodyPost Tryd.prog Tryd.f10 R .ret a w := by
  have c0 : w.cell? ⟨b, 0, none⟩ = some (.slice p n c) := hB.cell 0 _ rfl
  have c1 : w.cell? ⟨b, 1, none⟩ = some (.int .i64 i1) := hB.cell 1 _ rfl
  have c2 : w.cell? ⟨b, 2, none⟩ = some (.bool b2) := hB.cell 2 _ rfl
  have c3 : w.cell? ⟨b, 3, none⟩ = some (.int .i64 i3) := hB.cell 3 _ rfl
  have c4 : w.cell? ⟨b, 4, none⟩ = some (.string s4) := hB.cell 4 _ rfl
  refine bodyPost_ret (v := .tuple #[.agg (arrE p n c i1 b2 i3 s4), .bool bb]) ?_ hd h
  simp [results, Tryd.results10, go_sem, h2, h3, c0, c1, c2, c3, c4]

end
end Go.Proofs.YtkidfflmbfnogaaDoor
