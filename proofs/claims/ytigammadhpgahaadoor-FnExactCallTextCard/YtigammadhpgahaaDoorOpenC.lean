/- A call that came in, opened. -/
import Derived.Test.YtigammadhpgahaaDoorOpenS
import Derived.Test.YtigammadhpgahaaDoorCallB
namespace Go.Proofs.YtigammadhpgahaaDoor
open Go.RowKit Go.ChangeShapes Go.WideShapes Go.ChangeAt

section
variable {H : Type} {enc : TypeId × Value → H} {w : World} {spare : Nat → Bool} {held : Bool}

theorem fields_call : ∃ f0 f1 f2 f3 f4 : Field, Tryd.prog.underlying 24 = some (.struct #[f0, f1, f2, f3, f4]) ∧ (f0.type = 3 ∧ f0.offset = 0) ∧ (f1.type = 22 ∧ f1.offset = 1) ∧ (f2.type = 22 ∧ f2.offset = 2) ∧ (f3.type = 3 ∧ f3.offset = 3) ∧ (f4.type = 9 ∧ f4.offset = 4) :=
  ⟨_, _, _, _, _, Tryd.underlying24, ⟨rfl, rfl⟩, ⟨rfl, rfl⟩, ⟨rfl, rfl⟩, ⟨rfl, rfl⟩, ⟨rfl, rfl⟩⟩
theorem cellsC : Tryd.prog.cellsOf 24 = 5 := by kernel_rfl

/-- Five cells that read as a call. -/
theorem open_call (fuel : Nat) (cs : List Value) (x : DataW H × List MemPlace) (h : DataW.trod enc Tryd.prog w 0 spare held fuel 24 cs = some x) :
    ∃ (c : Cl) (pa : Option Addr) (pc : Nat) (ta : Option Addr) (tc : Nat), cs = [.int .i64 c.kind, .slice pa c.path.length pc, .slice ta c.to.length tc, .int .i64 c.num, .string c.data] ∧ ClOk w 0 w.heap.size c pa pc ta tc := by
  obtain ⟨f0, f1, f2, f3, f4, hu, ⟨t0, o0⟩, ⟨t1, o1⟩, ⟨t2, o2⟩, ⟨t3, o3⟩, ⟨t4, o4⟩⟩ := fields_call
  obtain ⟨xs, n, rfl, _, hlen, hxl, hfs⟩ := DataW.trod_struct hu h
  rw [cellsC] at hlen
  match cs, hlen with
  | [c0, c1, c2, c3, c4], _ =>
  have hx : ∀ i, i < 5 → ∃ y, xs[i]? = some y := fun i hi => ⟨xs[i]'(by simpa [hxl] using hi), List.getElem?_eq_getElem _⟩
  have g0 := hfs 0 f0 rfl
  have g1 := hfs 1 f1 rfl
  have g2 := hfs 2 f2 rfl
  have g3 := hfs 3 f3 rfl
  have g4 := hfs 4 f4 rfl
  rw [t0, o0, cellsI] at g0
  rw [t1, o1, cellsN] at g1
  rw [t2, o2, cellsN] at g2
  rw [t3, o3, cellsI] at g3
  rw [t4, o4, cellsS] at g4
  obtain ⟨y0, e0⟩ := hx 0 (by omega)
  obtain ⟨y1, e1⟩ := hx 1 (by omega)
  obtain ⟨y2, e2⟩ := hx 2 (by omega)
  obtain ⟨y3, e3⟩ := hx 3 (by omega)
  obtain ⟨y4, e4⟩ := hx 4 (by omega)
  rw [e0] at g0
  rw [e1] at g1
  rw [e2] at g2
  rw [e3] at g3
  rw [e4] at g4
  obtain ⟨kind, h0, _, _⟩ := DataW.trod_int Tryd.underlying3 g0
  obtain ⟨num, h3, _, _⟩ := DataW.trod_int Tryd.underlying3 g3
  obtain ⟨data, h4, _, hds⟩ := DataW.trod_string Tryd.underlying9 g4
  have q0 : c0 = .int .i64 kind := by simpa using h0
  have q3 : c3 = .int .i64 num := by simpa using h3
  have q4 : c4 = .string data := by simpa using h4
  have g1' : DataW.trod enc Tryd.prog w 0 spare held n 22 [c1] = some y1 := by simpa using g1
  have g2' : DataW.trod enc Tryd.prog w 0 spare held n 22 [c2] = some y2 := by simpa using g2
  obtain ⟨path, hp⟩ := open_strs_at g1'
  obtain ⟨dst, hd⟩ := open_strs_at g2'
  obtain ⟨pa, pc, rfl, _⟩ := id hp
  obtain ⟨ta, tc, rfl, _⟩ := id hd
  subst q0 q3 q4
  exact ⟨⟨kind, path, dst, num, data⟩, pa, pc, ta, tc, rfl, hp, hd, hds⟩

end
end Go.Proofs.YtigammadhpgahaaDoor
