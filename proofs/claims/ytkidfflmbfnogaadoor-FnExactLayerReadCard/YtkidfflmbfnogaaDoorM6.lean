/- What came in, opened: strings. -/
import Derived.Test.YtkidfflmbfnogaaDoorProg
import Derived.Test.YtkidfflmbfnogaaDoorRep
import Derived.ProofKit
import Derived.SliceStrings
import Derived.ChangeOld
import Derived.Test.YtkidfflmbfnogaaDoorRows
import Derived.Test.YtkidfflmbfnogaaDoorForm
import Derived.ChangeSame
import Derived.ChangeVars
import Derived.JoinedOf
import Derived.RowKit
import Derived.RowKitTokens
import Derived.LaidLaws
import Derived.Stop.Joined
import Derived.Lay
import Derived.Lib.LaidU8
import Derived.Lib.LaidTab
import Derived.Lib.SmallJoins
import Derived.Test.YtkidfflmbfnogaaDoorRdN
import Derived.MakeChecks
namespace Go.Proofs.YtkidfflmbfnogaaDoor
open Go.RowKit Go.ChangeShapes Go.WideShapes Go.ChangeAt

theorem add_at (b o : Nat) (n : Nat) : (⟨b, o, none⟩ : Addr).add n = ⟨b, o + n, none⟩ := by
  unfold Addr.add
  split
  · rename_i h; subst h; rfl
  · rfl

theorem list_of {α : Type} (f : Nat → Option α) : ∀ len, (∀ i, i < len → ∃ t, f i = some t) → ∃ kids : List α, kids.length = len ∧ ∀ i (h : i < kids.length), f i = some kids[i]
  | 0, _ => ⟨[], rfl, fun i h => by simp at h⟩
  | len + 1, hf => by
    obtain ⟨kids, h1, h2⟩ := list_of f len fun i hi => hf i (by omega)
    obtain ⟨t, ht⟩ := hf len (by omega)
    refine ⟨kids ++ [t], by simp [h1], fun i hi => ?_⟩
    by_cases hlt : i < kids.length
    · rw [List.getElem_append_left hlt]; exact h2 i hlt
    · have e : i = kids.length := by simp at hi; omega
      subst e
      rw [← h1] at ht
      rw [ht]
      simp

section
variable {H : Type} {enc : TypeId × Value → H} {w : World} {spare : Nat → Bool} {held : Bool}

theorem open_strs_at {fuel : Nat} {v : Value} {x : DataW H × List MemPlace} (h : DataW.trod enc Tryd.prog w 0 spare held fuel 28 [v] = some x) : ∃ l, StrsAt w 0 w.heap.size v l := by
  rcases open_strings Tryd.underlying28 Tryd.underlying9 (by kernel_rfl) h with ⟨hcs, _⟩ | ⟨a, len, cap, ss, hcs, _, hl, hm, hz, _, hcell, hws⟩
  · simp only [List.cons.injEq, and_true] at hcs
    subst hcs
    exact ⟨[], none, 0, rfl, Nat.zero_le _, fun i h => by simp at h, fun h => by simp at h⟩
  · simp only [List.cons.injEq, and_true] at hcs
    subst hcs
    have hlen : len ≤ ss.length := by rw [hz]; split <;> omega
    refine ⟨ss.take len, some a, cap, ?_, ?_, fun i hi => ?_, fun h0 => ?_⟩
    · rw [List.length_take, Nat.min_eq_left hlen]
    · rw [List.length_take, Nat.min_eq_left hlen]; exact Nat.le_trans hl hm
    · rw [List.getElem_take]
      exact hws _ (List.getElem_mem _)
    · rw [List.length_take, Nat.min_eq_left hlen] at h0
      obtain ⟨b, o, spot⟩ := a
      have hc0 := hcell 0 (by omega)
      have hspot : spot = none := by simpa [Addr.add] using World.cell?_spot hc0
      subst hspot
      refine ⟨b, o, rfl, Nat.zero_le _, World.block_lt_of_cell? w _ hc0, fun i hi => ?_⟩
      have hi' : i < len := by rw [List.length_take] at hi; omega
      have := hcell i (by omega)
      rw [add_at] at this
      rw [this, List.getElem_take, List.getD_eq_getElem?_getD, List.getElem?_eq_getElem (by omega)]
      rfl

theorem cellsB : Tryd.prog.cellsOf 4 = 1 := by kernel_rfl
theorem cellsI : Tryd.prog.cellsOf 3 = 1 := by kernel_rfl
theorem cellsS : Tryd.prog.cellsOf 9 = 1 := by kernel_rfl
theorem cellsN : Tryd.prog.cellsOf 28 = 1 := by kernel_rfl

end
end Go.Proofs.YtkidfflmbfnogaaDoor

/- What the listed package variables give a walk: the program's table of forms, the library's table of tens, its two errors. -/
namespace Go.Proofs.YtkidfflmbfnogaaDoor
open Go.ChangeShapes Go.WideShapes Go.RowKit

theorem lp_own : ownKnob Tryd.prog.godebug = none := by kernel_rfl
theorem lp_forms : Tryd.prog.globalNamed "loop.example/changetrail/impl.entryForms" = some 0 := by kernel_rfl
theorem lp_type : (Tryd.prog.globals[0]?).map (·.type) = some 63 := by kernel_rfl
theorem cellsF : Tryd.prog.cellsOf 48 = 5 := by kernel_rfl
theorem cellsA : Tryd.prog.cellsOf 63 = 25 := by kernel_rfl

def laidL : List (String × DataW Unit) := [("math/bits.deBruijn32tab", Rows.laid_math_bits_deBruijn32tab), ("math/bits.deBruijn64tab", Rows.laid_math_bits_deBruijn64tab), ("internal/strconv.uint64pow10", Rows.laid_internal_strconv_uint64pow10), ("unicode/utf8.acceptRanges", Rows.laid_unicode_utf8_acceptRanges), ("strconv.ErrRange", Rows.laid_strconv_ErrRange), ("strconv.ErrSyntax", Rows.laid_strconv_ErrSyntax), ("loop.example/changetrail/impl.entryForms", Rows.laid_loop_example_changetrail_impl_entryForms), ("unicode/utf8.first", Rows.laid_unicode_utf8_first)]

theorem fields_form : ∃ f0 f1 f2 f3 f4 : Field, Tryd.prog.underlying 48 = some (.struct #[f0, f1, f2, f3, f4]) ∧ (f0.type = 9 ∧ f0.offset = 0) ∧ (f1.type = 3 ∧ f1.offset = 1) ∧ (f2.type = 4 ∧ f2.offset = 2) ∧ (f3.type = 4 ∧ f3.offset = 3) ∧ (f4.type = 4 ∧ f4.offset = 4) :=
  ⟨_, _, _, _, _, Tryd.underlying48, ⟨rfl, rfl⟩, ⟨rfl, rfl⟩, ⟨rfl, rfl⟩, ⟨rfl, rfl⟩, ⟨rfl, rfl⟩⟩

set_option maxRecDepth 100000 in
theorem form_cells {w : World} {fuel : Nat} {cs : List Value} {s : List UInt8} {c : Int} {d m x : Bool} {p : List MemPlace}
    (h : DataW.trod (fun _ => ()) Tryd.prog w 0 (fun _ => true) false fuel 48 cs = some (.agg [.lit (.string s), .lit (.int .i64 c), .lit (.bool d), .lit (.bool m), .lit (.bool x)], p)) :
    cs = [.string ⟨s.toArray⟩, .int .i64 c, .bool d, .bool m, .bool x] := by
  obtain ⟨f0, f1, f2, f3, f4, hu, ⟨t0, o0⟩, ⟨t1, o1⟩, ⟨t2, o2⟩, ⟨t3, o3⟩, ⟨t4, o4⟩⟩ := fields_form
  obtain ⟨xs, n, rfl, hx, hlen, hxl, hfs⟩ := DataW.trod_struct hu h
  rw [cellsF] at hlen
  match cs, hlen with
  | [c0, c1, c2, c3, c4], _ =>
  have hxl : xs.length = 5 := hxl
  match xs, hxl with
  | [y0, y1, y2, y3, y4], _ =>
  have g0 := hfs 0 f0 rfl
  have g1 := hfs 1 f1 rfl
  have g2 := hfs 2 f2 rfl
  have g3 := hfs 3 f3 rfl
  have g4 := hfs 4 f4 rfl
  rw [t0, o0, cellsS] at g0
  rw [t1, o1, cellsI] at g1
  rw [t2, o2, cellsB] at g2
  rw [t3, o3, cellsB] at g3
  rw [t4, o4, cellsB] at g4
  obtain ⟨z0, a0, b0, _⟩ := DataW.trod_string Tryd.underlying9 g0
  obtain ⟨z1, a1, b1, _⟩ := DataW.trod_int Tryd.underlying3 g1
  obtain ⟨z2, a2, b2⟩ := DataW.trod_bool Tryd.underlying4 g2
  obtain ⟨z3, a3, b3⟩ := DataW.trod_bool Tryd.underlying4 g3
  obtain ⟨z4, a4, b4⟩ := DataW.trod_bool Tryd.underlying4 g4
  have e := DataW.agg.inj (Prod.mk.inj hx).1
  simp only [List.map_cons, List.map_nil, List.cons.injEq, and_true] at e
  have q0 : c0 = .string z0 := by simpa using a0
  have q1 : c1 = .int .i64 z1 := by simpa using a1
  have q2 : c2 = .bool z2 := by simpa using a2
  have q3 : c3 = .bool z3 := by simpa using a3
  have q4 : c4 = .bool z4 := by simpa using a4
  subst b0 b1 b2 b3 b4
  simp only [DataW.lit.injEq, Lit.string.injEq, Lit.int.injEq, Lit.bool.injEq, true_and] at e
  obtain ⟨r0, r1, r2, r3, r4⟩ := e
  subst q0 q1 q2 q3 q4 r0 r1 r2 r3 r4
  rfl

theorem split25 {α : Type} (l : List α) (h : l.length = 25) : l = l.take 5 ++ ((l.drop 5).take 5 ++ ((l.drop 10).take 5 ++ ((l.drop 15).take 5 ++ (l.drop 20).take 5))) := by
  have h5 : (l.drop 20).take 5 = l.drop 20 := List.take_of_length_le (by simp; omega)
  have e : ∀ n, l.drop n = (l.drop n).take 5 ++ l.drop (n + 5) := fun n => by
    rw [← List.drop_drop, List.take_append_drop]
  rw [h5, ← e 15, ← e 10, ← e 5, List.take_append_drop]

set_option maxRecDepth 100000 in
theorem forms_of {W : World} (h : laidMetH Tryd.prog laidL W) : FormsAt W := by
  rw [MakeChecks.laidMetH_plain _ _ _ (by kernel_rfl)] at h
  obtain ⟨g, t, cs, fuel, p, hg, ht, hv, hd⟩ := Lib.laidMet.reads h (n := "loop.example/changetrail/impl.entryForms") (d := Rows.laid_loop_example_changetrail_impl_entryForms) (by simp [laidL])
  obtain rfl := Option.some.inj (lp_forms.symm.trans hg)
  obtain rfl := Option.some.inj (lp_type.symm.trans ht)
  obtain ⟨xs, m, _, ex, hlen, hl, hel⟩ := DataW.trod_array Tryd.underlying63 hd
  rw [cellsA] at hlen
  match xs, hl with
  | [x0, x1, x2, x3, x4], _ =>
  have e := DataW.agg.inj (Prod.mk.inj ex).1
  simp only [List.map_cons, List.map_nil, List.cons.injEq, and_true] at e
  obtain ⟨e0, e1, e2, e3, e4⟩ := e
  have k0 := hel 0 (by omega)
  have k1 := hel 1 (by omega)
  have k2 := hel 2 (by omega)
  have k3 := hel 3 (by omega)
  have k4 := hel 4 (by omega)
  rw [cellsF] at k0 k1 k2 k3 k4
  obtain ⟨d0, p0⟩ := x0
  obtain ⟨d1, p1⟩ := x1
  obtain ⟨d2, p2⟩ := x2
  obtain ⟨d3, p3⟩ := x3
  obtain ⟨d4, p4⟩ := x4
  simp only at e0 e1 e2 e3 e4
  subst e0 e1 e2 e3 e4
  have c0 := form_cells k0
  have c1 := form_cells k1
  have c2 := form_cells k2
  have c3 := form_cells k3
  have c4 := form_cells k4
  have hcs : cs = FORMS := by
    have hs := split25 cs.toList hlen
    have c0' : cs.toList.take 5 = _ := c0
    rw [c0', c1, c2, c3, c4] at hs
    apply Array.toList_inj.1
    rw [hs]
    rfl
  subst hcs
  unfold World.var? at hv
  rw [lp_forms] at hv
  simp only [Option.bind_some] at hv
  split at hv
  · rename_i cs' t' fr' hh
    obtain rfl := Option.some.inj hv
    exact ⟨t', fr', hh⟩
  · cases hv

theorem lp_pow : Tryd.prog.globalNamed "internal/strconv.uint64pow10" = some 6 := by kernel_rfl
theorem lp_powT : ∃ t e, (Tryd.prog.globals[6]?).map (·.type) = some t ∧ Tryd.prog.underlying t = some (.array 20 e) ∧ Tryd.prog.underlying e = some (.int .u64) ∧ Tryd.prog.cellsOf e = 1 ∧ Tryd.prog.cellsOf t = 20 := ⟨120, 97, by kernel_rfl, by kernel_rfl, by kernel_rfl, by kernel_rfl, by kernel_rfl⟩
theorem lp_syn : Tryd.prog.globalNamed "strconv.ErrSyntax" = some 2 := by kernel_rfl
theorem lp_ran : Tryd.prog.globalNamed "strconv.ErrRange" = some 3 := by kernel_rfl
theorem lp_err : ∃ t ms, (Tryd.prog.globals[2]?).map (·.type) = some t ∧ (Tryd.prog.globals[3]?).map (·.type) = some t ∧ Tryd.prog.underlying t = some (.interface ms) := ⟨72, _, by kernel_rfl, by kernel_rfl, Tryd.underlying72⟩
theorem pow_data : (Rows.laid_internal_strconv_uint64pow10 : DataW Unit) = Lib.tabData .u64 Lib.pow10Tab := by kernel_rfl

set_option maxRecDepth 100000 in
theorem env_of {W : World} (h : laidMetH Tryd.prog laidL W) : Env W.heap.size W := by
  rw [MakeChecks.laidMetH_plain _ _ _ (by kernel_rfl)] at h
  intro W' hb
  refine ⟨?_, ?_, ?_⟩
  · obtain ⟨g, t, cs, fuel, p, hg, ht, hv, hd⟩ := Lib.laidMet.reads h (n := "internal/strconv.uint64pow10") (d := Rows.laid_internal_strconv_uint64pow10) (by simp [laidL])
    obtain rfl := Option.some.inj (lp_pow.symm.trans hg)
    obtain ⟨t', e, q1, q2, q3, q4, q5⟩ := lp_powT
    obtain rfl := Option.some.inj (q1.symm.trans ht)
    rw [pow_data] at hd
    have hc := Lib.cells_of_tab q2 q3 q4 q5 hd
    refine Go.Joins.tab_stays lp_pow ?_ hb (Nat.le_refl _)
    show W.var? _ _ = _
    rw [hv, ← hc]
  · obtain ⟨g, t, cs, fuel, p, hg, ht, hv, hd⟩ := Lib.laidMet.reads h (n := "strconv.ErrSyntax") (d := Rows.laid_strconv_ErrSyntax) (by simp [laidL])
    obtain rfl := Option.some.inj (lp_syn.symm.trans hg)
    obtain ⟨t', ms, q1, q2, q3⟩ := lp_err
    obtain rfl := Option.some.inj (q1.symm.trans ht)
    obtain ⟨_, u, v, hc, _, _⟩ := iface_of_trod q3 hd
    refine ⟨u, v, Go.Joins.var_stays lp_syn ?_ hb (Nat.le_refl _)⟩
    rw [hv]
    congr 1
    exact Array.toList_inj.1 hc
  · obtain ⟨g, t, cs, fuel, p, hg, ht, hv, hd⟩ := Lib.laidMet.reads h (n := "strconv.ErrRange") (d := Rows.laid_strconv_ErrRange) (by simp [laidL])
    obtain rfl := Option.some.inj (lp_ran.symm.trans hg)
    obtain ⟨t', ms, q1, q2, q3⟩ := lp_err
    obtain rfl := Option.some.inj (q2.symm.trans ht)
    obtain ⟨_, u, v, hc, _, _⟩ := iface_of_trod q3 hd
    refine ⟨u, v, Go.Joins.var_stays lp_ran ?_ hb (Nat.le_refl _)⟩
    rw [hv]
    congr 1
    exact Array.toList_inj.1 hc

end Go.Proofs.YtkidfflmbfnogaaDoor
