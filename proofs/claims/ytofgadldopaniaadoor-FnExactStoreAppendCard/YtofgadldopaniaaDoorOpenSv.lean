/- A store that came in, opened. -/
import Derived.Test.YtofgadldopaniaaDoorOpenS
import Derived.Test.YtofgadldopaniaaDoorSvG
namespace Go.Proofs.YtofgadldopaniaaDoor
open Go.RowKit Go.ChangeShapes Go.WideShapes Go.ChangeAt

section
variable {H : Type} {enc : TypeId × Value → H} {w : World} {spare : Nat → Bool} {held : Bool}

theorem fields_store : ∃ f0 f1 f2 f3 : Field, Tryd.prog.underlying 30 = some (.struct #[f0, f1, f2, f3]) ∧ (f0.type = 3 ∧ f0.offset = 0) ∧ (f1.type = 9 ∧ f1.offset = 1) ∧ (f2.type = 28 ∧ f2.offset = 2) ∧ (f3.type = 3 ∧ f3.offset = 3) :=
  ⟨_, _, _, _, Tryd.underlying30, ⟨rfl, rfl⟩, ⟨rfl, rfl⟩, ⟨rfl, rfl⟩, ⟨rfl, rfl⟩⟩
theorem cellsSt : Tryd.prog.cellsOf 30 = 4 := by kernel_rfl

set_option maxRecDepth 100000 in
/-- Four cells that read as a store. -/
theorem open_store (fuel : Nat) (cs : List Value) (x : DataW H × List MemPlace) (h : DataW.trod enc Tryd.prog w 0 spare held fuel 30 cs = some x) :
    ∃ (s : St) (gv : Value), cs = [.int .i64 s.gen, .string s.text, gv, .int .i64 s.next] ∧ StrsAt w 0 w.heap.size gv s.groups ∧ s.text.size ≤ maxLen := by
  obtain ⟨f0, f1, f2, f3, hu, ⟨t0, o0⟩, ⟨t1, o1⟩, ⟨t2, o2⟩, ⟨t3, o3⟩⟩ := fields_store
  obtain ⟨xs, n, rfl, _, hlen, hxl, hfs⟩ := DataW.trod_struct hu h
  rw [cellsSt] at hlen
  match cs, hlen with
  | [c0, c1, c2, c3], _ =>
  have hx : ∀ i, i < 4 → ∃ y, xs[i]? = some y := fun i hi => ⟨xs[i]'(by simpa [hxl] using hi), List.getElem?_eq_getElem _⟩
  have g0 := hfs 0 f0 rfl
  have g1 := hfs 1 f1 rfl
  have g2 := hfs 2 f2 rfl
  have g3 := hfs 3 f3 rfl
  rw [t0, o0, cellsI] at g0
  rw [t1, o1, cellsS] at g1
  rw [t2, o2, cellsN] at g2
  rw [t3, o3, cellsI] at g3
  obtain ⟨y0, e0⟩ := hx 0 (by omega)
  obtain ⟨y1, e1⟩ := hx 1 (by omega)
  obtain ⟨y2, e2⟩ := hx 2 (by omega)
  obtain ⟨y3, e3⟩ := hx 3 (by omega)
  rw [e0] at g0
  rw [e1] at g1
  rw [e2] at g2
  rw [e3] at g3
  obtain ⟨gen, h0, _, _⟩ := DataW.trod_int Tryd.underlying3 g0
  obtain ⟨text, h1, _, hds⟩ := DataW.trod_string Tryd.underlying9 g1
  obtain ⟨next, h3, _, _⟩ := DataW.trod_int Tryd.underlying3 g3
  have q0 : c0 = .int .i64 gen := by simpa using h0
  have q1 : c1 = .string text := by simpa using h1
  have q3 : c3 = .int .i64 next := by simpa using h3
  have g2' : DataW.trod enc Tryd.prog w 0 spare held n 28 [c2] = some y2 := by simpa using g2
  obtain ⟨groups, hp⟩ := open_strs_at g2'
  subst q0 q1 q3
  exact ⟨⟨gen, text, groups, next⟩, c2, rfl, hp, hds⟩

end
end Go.Proofs.YtofgadldopaniaaDoor
