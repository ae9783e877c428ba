/- For every tree and every call, of whatever shape and size, the law FnExactTrailOf returns true, and both read behind the call as they read before: no condition. -/
import Derived.Test.YtifbbbgcdklaaaaRows
import Derived.Test.YtifbbbgcdklaaaaTOLaw
import Derived.Test.YtifbbbgcdklaaaaTOS
import Derived.Test.YtifbbbgcdklaaaaOpenC
import Derived.Test.YtifbbbgcdklaaaaOpen
import Derived.WalkKit
import Derived.ProofKit
import Derived.OpenShut
import Derived.ShutString
import Derived.ChangeOld
import Derived.Below
namespace Go.Proofs.Ytifbbbgcdklaaaa.fnExactTrailOf
open Go.ChangeShapes Go.WideShapes Go.ChangeAt Go.RowKit
open Go.ChangeMaps (open_string shut_string)
set_option linter.unusedVariables false

theorem own : ownKnob Try.prog.godebug = none := by kernel_rfl
theorem laidOut : laidOutB Try.prog = true := by kernel_rfl

set_option maxRecDepth 100000 in
theorem lifted (os : Os) (started : os.Started) (H : Type) (enc : TypeId × Value → H) :
    ReturnsInHanded {} Try.checked os 3 .any (Rows.fnExactTrailOfSpec.pre6 enc Try.prog Try.f3 Rows.fnExactTrailOfRow.domain false) (Rows.fnExactTrailOfSpec.post enc Try.prog Try.f3 false true false false) := by
  refine returnsInHanded_of_change (C := Try.checked) own started (by kernel_rfl) Try.func3
    (ChangeSpec.witness6 (enc := enc) (C := Try.checked) false ⟨#[], #[.agg #[.bool false, .int .i64 0, .string ⟨#[]⟩, .slice none 0 0, .slice none 0 0], .agg #[.int .i64 0, .slice none 0 0, .slice none 0 0, .int .i64 0, .string ⟨#[]⟩]], []⟩ 8 (by kernel_rfl) (by kernel_rfl) (by kernel_rfl) (by kernel_rfl)) ?_
  intro W base args ds gs before hval0 hW hcnd _
  have hval : ∀ (j : Nat) t v, Try.f3.params[j]? = some t → args[j]? = some v → Value.okWide Try.prog W .any base t v := hval0
  have hW' := hW
  obtain ⟨p, q, hA0, hV, rfl, hfz, hnd⟩ := hW
  have hA : DataW.TrodAll enc Try.prog W 0 (fun _ => true) true Try.f3.params.toList args.toList ds p := hA0
  rw [Try.params3] at hA hval
  obtain ⟨v0, vs0, d0, ds0, p0, q0, hargs, rfl, rfl, h0, r0⟩ := trodAll_cons hA
  obtain ⟨v1, vs1, d1, ds1, p1, q1, hargs1, rfl, rfl, h1, r1⟩ := trodAll_cons r0
  obtain ⟨rfl, rfl, rfl⟩ := trodAll_nil r1
  obtain rfl : args = #[v0, v1] := by cases args; simp_all
  obtain ⟨rfl, rfl⟩ := trodVars_none hV
  have k0 := h0
  have k1 := h1
  have lt0 : ∀ x ∈ p0, x.block < W.heap.size := by obtain ⟨m, hm⟩ := k0; exact DataW.trod_lt m _ _ _ hm
  have lt1 : ∀ x ∈ p1, x.block < W.heap.size := by obtain ⟨m, hm⟩ := k1; exact DataW.trod_lt m _ _ _ hm
  obtain ⟨f0, f1, f2, f3, f4, hu, _⟩ := fields_tree
  obtain ⟨cs, rfl, hsz⟩ := okWide_struct hu (hval 0 25 v0 rfl rfl)
  obtain ⟨fuel, hf⟩ := h0
  obtain ⟨t, nv, kv, hcs, hrep⟩ := open_tree_cells fuel fuel (by omega) cs.toList _ hf
  obtain rfl : cs = #[.bool (headT fuel t).1, .int .i64 (headT fuel t).2.1, .string (headT fuel t).2.2, nv, kv] := by cases cs; simp_all
  obtain ⟨f0', f1', f2', f3', f4', hu', _⟩ := fields_call
  obtain ⟨cc, rfl, hsz'⟩ := okWide_struct hu' (hval 1 27 v1 rfl rfl)
  obtain ⟨fuel1, hf1⟩ := h1
  obtain ⟨c, pa, pc, ta, tc, hcc, hcl⟩ := open_call fuel1 cc.toList _ hf1
  obtain rfl : cc = #[.int .i64 c.kind, .slice pa c.path.length pc, .slice ta c.to.length tc, .int .i64 c.num, .string c.data] := by cases cc; simp_all
  clear hA0 hval0
  refine (trailOfLaw_at fuel t nv kv c pa pc ta tc W 0 W.heap.size 0 W.heap.size hrep hcl (Nat.le_refl _) (Nat.le_refl _) (fun W l1 h1 l2 h2 v1 v2 pa' ta' g1 g2 g3 r1 r2 r3 r4 => specTrailOf_any fuel t v1 v2 c pa' ta' W l1 h1 l2 h2 r1 r3 r2 r4 g1 g2 g3)).mono fun e W' ⟨he, bel⟩ => ?_
  subst he
  exact ⟨_, rfl, _, _, _, [], _, [], hW', trodAll_mk1 (shut_bool Try.underlying4 _), (trodAll_cons_mk (Below.trod laidOut (by kernel_rfl) (of_decide_eq_true (by kernel_rfl)) k0 bel lt0) (trodAll_cons_mk (Below.trod laidOut (by kernel_rfl) (of_decide_eq_true (by kernel_rfl)) k1 bel lt1) trodAll_mk0)), rfl, bel.frame _, fun h => by cases h⟩

theorem over : Rows.fnExactTrailOfRow.holds Try.pinned (OpenSpec.ofChange Rows.fnExactTrailOfSpec) :=
  OpenClaim.holds_of_wide 3 Try.f3 rfl rfl rfl rfl rfl rfl rfl ⟨rfl, rfl, rfl, rfl, rfl⟩ rfl rfl rfl rfl rfl (by kernel_rfl) Try.func3 (by kernel_rfl)
    (of_decide_eq_true (by kernel_rfl)) (by unfold Func.isWrapper; first | (rw [if_pos (by decide +kernel)]; kernel_rfl) | (rw [if_neg (by decide +kernel)]; exact ⟨rfl, rfl⟩))
    (fun os started H enc _ => lifted os started H enc)

end Go.Proofs.Ytifbbbgcdklaaaa.fnExactTrailOf

namespace Go.Proofs.Ytifbbbgcdklaaaa
theorem trailOf_proved : Rows.FnExactTrailOfSaid := fnExactTrailOf.over
#print axioms trailOf_proved
end Go.Proofs.Ytifbbbgcdklaaaa
