/- What the listed package variables give a walk: the program's table of a call's forms. -/
import Derived.Test.YtigammadhpgahaaDoorRows
import Derived.Test.YtigammadhpgahaaDoorCtI
import Derived.Test.YtigammadhpgahaaDoorOpenS
import Derived.OpenShut
import Derived.ChangeSame
import Derived.ChangeVars
import Derived.JoinedOf
import Derived.RowKit
import Derived.RowKitTokens
import Derived.LaidLaws
import Derived.Stop.Joined
import Derived.Lay
import Derived.Lib.LaidU8
import Derived.MakeChecks
namespace Go.Proofs.YtigammadhpgahaaDoor
open Go.ChangeShapes Go.WideShapes Go.RowKit

theorem lp_own : ownKnob Tryd.prog.godebug = none := by kernel_rfl
theorem lp_forms : Tryd.prog.globalNamed "loop.example/changetrail/impl.callForms" = some 0 := by kernel_rfl
theorem lp_type : (Tryd.prog.globals[0]?).map (·.type) = some 40 := by kernel_rfl
theorem cellsF : Tryd.prog.cellsOf 39 = 4 := by kernel_rfl
theorem cellsA : Tryd.prog.cellsOf 40 = 28 := by kernel_rfl

def laidL : List (String × DataW Unit) := [("math/bits.deBruijn32tab", Rows.laid_math_bits_deBruijn32tab), ("math/bits.deBruijn64tab", Rows.laid_math_bits_deBruijn64tab), ("internal/strconv.uint64pow10", Rows.laid_internal_strconv_uint64pow10), ("loop.example/changetrail/impl.callForms", Rows.laid_loop_example_changetrail_impl_callForms)]

theorem fields_form : ∃ f0 f1 f2 f3 : Field, Tryd.prog.underlying 39 = some (.struct #[f0, f1, f2, f3]) ∧ (f0.type = 9 ∧ f0.offset = 0) ∧ (f1.type = 4 ∧ f1.offset = 1) ∧ (f2.type = 4 ∧ f2.offset = 2) ∧ (f3.type = 4 ∧ f3.offset = 3) :=
  ⟨_, _, _, _, Tryd.underlying39, ⟨rfl, rfl⟩, ⟨rfl, rfl⟩, ⟨rfl, rfl⟩, ⟨rfl, rfl⟩⟩

theorem form_cells {w : World} {fuel : Nat} {cs : List Value} {s : List UInt8} {d m x : Bool} {p : List MemPlace}
    (h : DataW.trod (fun _ => ()) Tryd.prog w 0 (fun _ => true) false fuel 39 cs = some (.agg [.lit (.string s), .lit (.bool d), .lit (.bool m), .lit (.bool x)], p)) :
    cs = [.string ⟨s.toArray⟩, .bool d, .bool m, .bool x] := by
  obtain ⟨f0, f1, f2, f3, hu, ⟨t0, o0⟩, ⟨t1, o1⟩, ⟨t2, o2⟩, ⟨t3, o3⟩⟩ := fields_form
  obtain ⟨xs, n, rfl, hx, hlen, hxl, hfs⟩ := DataW.trod_struct hu h
  rw [cellsF] at hlen
  match cs, hlen with
  | [c0, c1, c2, c3], _ =>
  have hxl : xs.length = 4 := hxl
  match xs, hxl with
  | [y0, y1, y2, y3], _ =>
  have g0 := hfs 0 f0 rfl
  have g1 := hfs 1 f1 rfl
  have g2 := hfs 2 f2 rfl
  have g3 := hfs 3 f3 rfl
  rw [t0, o0, cellsS] at g0
  rw [t1, o1, cellsB] at g1
  rw [t2, o2, cellsB] at g2
  rw [t3, o3, cellsB] at g3
  obtain ⟨z0, a0, b0, _⟩ := DataW.trod_string Tryd.underlying9 g0
  obtain ⟨z1, a1, b1⟩ := DataW.trod_bool Tryd.underlying4 g1
  obtain ⟨z2, a2, b2⟩ := DataW.trod_bool Tryd.underlying4 g2
  obtain ⟨z3, a3, b3⟩ := DataW.trod_bool Tryd.underlying4 g3
  have e := DataW.agg.inj (Prod.mk.inj hx).1
  simp only [List.map_cons, List.map_nil, List.cons.injEq, and_true] at e
  have q0 : c0 = .string z0 := by simpa using a0
  have q1 : c1 = .bool z1 := by simpa using a1
  have q2 : c2 = .bool z2 := by simpa using a2
  have q3 : c3 = .bool z3 := by simpa using a3
  subst b0 b1 b2 b3
  simp only [DataW.lit.injEq, Lit.string.injEq, Lit.bool.injEq] at e
  obtain ⟨r0, r1, r2, r3⟩ := e
  subst q0 q1 q2 q3 r0 r1 r2 r3
  rfl

theorem split28 {α : Type} (l : List α) (h : l.length = 28) : l = l.take 4 ++ ((l.drop 4).take 4 ++ ((l.drop 8).take 4 ++ ((l.drop 12).take 4 ++ ((l.drop 16).take 4 ++ ((l.drop 20).take 4 ++ (l.drop 24).take 4))))) := by
  have h5 : (l.drop 24).take 4 = l.drop 24 := List.take_of_length_le (by simp; omega)
  have e : ∀ n, l.drop n = (l.drop n).take 4 ++ l.drop (n + 4) := fun n => by
    rw [← List.drop_drop, List.take_append_drop]
  rw [h5, ← e 20, ← e 16, ← e 12, ← e 8, ← e 4, List.take_append_drop]

theorem cforms_of {W : World} (h : laidMetH Tryd.prog laidL W) : CFormsAt W := by
  rw [MakeChecks.laidMetH_plain _ _ _ (by kernel_rfl)] at h
  obtain ⟨g, t, cs, fuel, p, hg, ht, hv, hd⟩ := Lib.laidMet.reads h (n := "loop.example/changetrail/impl.callForms") (d := Rows.laid_loop_example_changetrail_impl_callForms) (by simp [laidL])
  obtain rfl := Option.some.inj (lp_forms.symm.trans hg)
  obtain rfl := Option.some.inj (lp_type.symm.trans ht)
  obtain ⟨xs, m, _, ex, hlen, hl, hel⟩ := DataW.trod_array Tryd.underlying40 hd
  rw [cellsA] at hlen
  match xs, hl with
  | [x0, x1, x2, x3, x4, x5, x6], _ =>
  have e := DataW.agg.inj (Prod.mk.inj ex).1
  simp only [List.map_cons, List.map_nil, List.cons.injEq, and_true] at e
  obtain ⟨e0, e1, e2, e3, e4, e5, e6⟩ := e
  have k0 := hel 0 (by omega)
  have k1 := hel 1 (by omega)
  have k2 := hel 2 (by omega)
  have k3 := hel 3 (by omega)
  have k4 := hel 4 (by omega)
  have k5 := hel 5 (by omega)
  have k6 := hel 6 (by omega)
  rw [cellsF] at k0 k1 k2 k3 k4 k5 k6
  obtain ⟨d0, p0⟩ := x0
  obtain ⟨d1, p1⟩ := x1
  obtain ⟨d2, p2⟩ := x2
  obtain ⟨d3, p3⟩ := x3
  obtain ⟨d4, p4⟩ := x4
  obtain ⟨d5, p5⟩ := x5
  obtain ⟨d6, p6⟩ := x6
  simp only at e0 e1 e2 e3 e4 e5 e6
  subst e0 e1 e2 e3 e4 e5 e6
  have c0 := form_cells k0
  have c1 := form_cells k1
  have c2 := form_cells k2
  have c3 := form_cells k3
  have c4 := form_cells k4
  have c5 := form_cells k5
  have c6 := form_cells k6
  have hcs : cs = CFORMS := by
    have hs := split28 cs.toList hlen
    have c0' : cs.toList.take 4 = _ := c0
    rw [c0', c1, c2, c3, c4, c5, c6] at hs
    apply Array.toList_inj.1
    rw [hs]
    rfl
  subst hcs
  unfold World.var? at hv
  rw [lp_forms] at hv
  simp only [Option.bind_some] at hv
  split at hv
  · rename_i cs' t' fr' hh
    obtain rfl := Option.some.inj hv
    exact ⟨t', fr', hh⟩
  · cases hv

end Go.Proofs.YtigammadhpgahaaDoor
