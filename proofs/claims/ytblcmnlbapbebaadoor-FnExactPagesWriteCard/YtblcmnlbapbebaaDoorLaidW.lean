/- What the listed package variables give a walk: the library's table of tens, and the cell of errors.errorType. -/
import Derived.Test.YtblcmnlbapbebaaDoorRows
import Derived.Test.YtblcmnlbapbebaaDoorCode
import Derived.Test.YtblcmnlbapbebaaDoorTabI
import Derived.ChangeSame
import Derived.ChangeVars
import Derived.JoinedOf
import Derived.RowKit
import Derived.RowKitTokens
import Derived.LaidLaws
import Derived.LaidHandle
import Derived.Stop.Joined
import Derived.Lay
import Derived.Lib.LaidU8
import Derived.Lib.LaidTab
import Derived.Lib.SmallJoins
import Derived.MakeChecks
namespace Go.Proofs.YtblcmnlbapbebaaDoor
open Go.ChangeShapes Go.WideShapes Go.RowKit

theorem lp_own : ownKnob Tryd.prog.godebug = none := by kernel_rfl
theorem lp_et : Tryd.prog.globalNamed "errors.errorType" = some 0 := by kernel_rfl
theorem lp_rt : (Tryd.prog.cutTypes.find? (·.1 == "internal/reflectlite.rtype")).map (·.2) = some 117 := by kernel_rfl
theorem lp_one : ((List.range 176).filter fun t => Tryd.prog.rowNamed t [101, 114, 114, 111, 114]) = [46] := by kernel_rfl
theorem lp_size : Tryd.prog.types.size = 176 := by kernel_rfl
theorem lp_pow : ∃ g t e, Tryd.prog.globalNamed "internal/strconv.uint64pow10" = some g ∧ (Tryd.prog.globals[g]?).map (·.type) = some t ∧ Tryd.prog.underlying t = some (.array 20 e) ∧ Tryd.prog.underlying e = some (.int .u64) ∧ Tryd.prog.cellsOf e = 1 ∧ Tryd.prog.cellsOf t = 20 := ⟨1, 141, 134, by kernel_rfl, by kernel_rfl, by kernel_rfl, by kernel_rfl, by kernel_rfl, by kernel_rfl⟩
theorem pow_data : (Rows.laid_internal_strconv_uint64pow10 : DataW Unit) = Lib.tabData .u64 Lib.pow10Tab := by kernel_rfl

def tabL : List (String × DataW Unit) := [("math/bits.deBruijn32tab", Rows.laid_math_bits_deBruijn32tab), ("math/bits.deBruijn64tab", Rows.laid_math_bits_deBruijn64tab), ("internal/strconv.uint64pow10", Rows.laid_internal_strconv_uint64pow10)]
def errL : List (String × DataW Unit) := [("errors.errorType", Rows.laid_errors_errorType)]
def laidL : List (String × DataW Unit) := tabL ++ errL

theorem parts_plain : (laidL.filter fun x => x.2.handleName?.isNone) = tabL := by kernel_rfl
theorem parts_handle : (laidL.filter fun x => x.2.handleName?.isSome) = errL := by kernel_rfl
theorem parts_of {W : World} (h : laidMetH Tryd.prog laidL W) : laidMet Tryd.prog tabL W ∧ handlesMet Tryd.prog errL W := by
  unfold laidMetH at h
  rw [parts_plain, parts_handle] at h
  exact h

theorem laid0_of {W : World} (h : laidMetH Tryd.prog laidL W) : Laid0 W := by
  have h' := parts_of h
  obtain ⟨name, u, ty, e1, e2, e3, e4, e5⟩ := h'.2 _ (List.mem_singleton.2 rfl)
  have en : name = [101, 114, 114, 111, 114] := (Option.some.inj e1).symm
  subst en
  obtain rfl := Option.some.inj (lp_rt.symm.trans e2)
  have hm : ty ∈ (List.range 176).filter fun t => Tryd.prog.rowNamed t [101, 114, 114, 111, 114] := List.mem_filter.2 ⟨List.mem_range.2 (by rw [← lp_size]; exact e3), e4⟩
  rw [lp_one] at hm
  obtain rfl := List.mem_singleton.1 hm
  have hh : typeHandle Tryd.prog 46 = .pointer (some ⟨4, 46, none⟩) := by kernel_rfl
  rw [hh] at e5
  unfold Laid0
  simpa using World.var?_cell lp_et e5 0

set_option maxRecDepth 100000 in
theorem tab_of {W : World} (h0 : laidMetH Tryd.prog laidL W) : Tab W.heap.size W := by
  have h := (parts_of h0).1
  intro W' hb
  obtain ⟨g0, t', e, q0, q1, q2, q3, q4, q5⟩ := lp_pow
  obtain ⟨g, t, cs, fuel, p, hg, ht, hv, hd⟩ := Lib.laidMet.reads h (n := "internal/strconv.uint64pow10") (d := Rows.laid_internal_strconv_uint64pow10) (by simp [tabL])
  obtain rfl := Option.some.inj (q0.symm.trans hg)
  obtain rfl := Option.some.inj (q1.symm.trans ht)
  rw [pow_data] at hd
  have hc := Lib.cells_of_tab q2 q3 q4 q5 hd
  refine Go.Joins.tab_stays q0 ?_ hb (Nat.le_refl _)
  show W.var? _ _ = _
  rw [hv, ← hc]

/-- The settled world, the handle's cell laid. -/
noncomputable def heldW (os : Os) : World := { World.holding Tryd.prog os ⟨#[], #[], []⟩ with heap := (World.holding Tryd.prog os ⟨#[], #[], []⟩).heap.modify 0 fun | .cells _ t frozen => .cells #[.iface 117 (.agg #[.pointer (some ⟨4, 46, none⟩)])] t frozen | o => o }
/-- And the tables. -/
noncomputable def witW (os : Os) : World := (heldW os).layVars Tryd.prog tabL
theorem witW_os (os : Os) : (witW os).os = os := by unfold witW; rw [World.layVars_os]; rfl
theorem witW_tabs (os : Os) (args : Array Value) : laidMet Tryd.prog tabL ((witW os).forCall (fun _ _ => 0) ⟨#[], args, []⟩).memory := by
  have e1 : (tabL.filter fun x => (tabL.map (·.1)).contains x.1) = tabL := List.filter_eq_self.2 fun x hx => List.contains_iff_mem.2 (List.mem_map.2 ⟨x, hx, rfl⟩)
  have e2 : (tabL.filter fun x => !(tabL.map (·.1)).contains x.1) = [] := List.filter_eq_nil_iff.2 fun x hx => by rw [List.contains_iff_mem.2 (List.mem_map.2 ⟨x, hx, rfl⟩)]; simp
  have h : laidMet Tryd.prog tabL (witW os) := laidMet_layVars (w0 := heldW os) (tabL.map (·.1)) [] (by rw [e1]; rfl) (by rw [e1]; kernel_rfl) (by rw [e1]; kernel_rfl) (by rw [e2]; exact LaidIn.none)
  exact h.of_heap (by simp [World.memory, World.forCall, Input.heap])
theorem laidWorld_met (os : Os) (args : Array Value) : laidMetH Tryd.prog laidL ((witW os).forCall (fun _ _ => 0) ⟨#[], args, []⟩).memory :=
  laidMetH_of_parts (by rw [parts_plain]; exact witW_tabs os args) (by kernel_rfl)

end Go.Proofs.YtblcmnlbapbebaaDoor
