/- What the listed package variables give a walk: the library's table of tens. -/
import Derived.Test.YtofgadldopaniaaDoorRows
import Derived.ChangeSame
import Derived.ChangeVars
import Derived.JoinedOf
import Derived.RowKit
import Derived.RowKitTokens
import Derived.LaidLaws
import Derived.Stop.Joined
import Derived.Lay
import Derived.Lib.LaidU8
import Derived.Lib.LaidTab
import Derived.Lib.SmallJoins
import Derived.Test.YtofgadldopaniaaDoorSvI
import Derived.MakeChecks
namespace Go.Proofs.YtofgadldopaniaaDoor
open Go.ChangeShapes Go.WideShapes Go.RowKit

theorem lp_own : ownKnob Tryd.prog.godebug = none := by kernel_rfl
def laidL : List (String × DataW Unit) := [("math/bits.deBruijn32tab", Rows.laid_math_bits_deBruijn32tab), ("math/bits.deBruijn64tab", Rows.laid_math_bits_deBruijn64tab), ("internal/strconv.uint64pow10", Rows.laid_internal_strconv_uint64pow10)]
theorem lp_pow : ∃ g t e, Tryd.prog.globalNamed "internal/strconv.uint64pow10" = some g ∧ (Tryd.prog.globals[g]?).map (·.type) = some t ∧ Tryd.prog.underlying t = some (.array 20 e) ∧ Tryd.prog.underlying e = some (.int .u64) ∧ Tryd.prog.cellsOf e = 1 ∧ Tryd.prog.cellsOf t = 20 := ⟨0, 79, 73, by kernel_rfl, by kernel_rfl, by kernel_rfl, by kernel_rfl, by kernel_rfl, by kernel_rfl⟩
theorem pow_data : (Rows.laid_internal_strconv_uint64pow10 : DataW Unit) = Lib.tabData .u64 Lib.pow10Tab := by kernel_rfl

set_option maxRecDepth 100000 in
theorem tab_of {W : World} (h : laidMetH Tryd.prog laidL W) : Tab W.heap.size W := by
  rw [MakeChecks.laidMetH_plain _ _ _ (by kernel_rfl)] at h
  intro W' hb
  obtain ⟨g0, t', e, q0, q1, q2, q3, q4, q5⟩ := lp_pow
  obtain ⟨g, t, cs, fuel, p, hg, ht, hv, hd⟩ := Lib.laidMet.reads h (n := "internal/strconv.uint64pow10") (d := Rows.laid_internal_strconv_uint64pow10) (by simp [laidL])
  obtain rfl := Option.some.inj (q0.symm.trans hg)
  obtain rfl := Option.some.inj (q1.symm.trans ht)
  rw [pow_data] at hd
  have hc := Lib.cells_of_tab q2 q3 q4 q5 hd
  refine Go.Joins.tab_stays q0 ?_ hb (Nat.le_refl _)
  show W.var? _ _ = _
  rw [hv, ← hc]

end Go.Proofs.YtofgadldopaniaaDoor
