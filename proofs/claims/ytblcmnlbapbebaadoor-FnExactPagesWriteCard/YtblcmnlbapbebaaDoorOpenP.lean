/- Pages with their names that came in, opened. -/
import Derived.Test.YtblcmnlbapbebaaDoorOpenS
import Derived.Test.YtblcmnlbapbebaaDoorPgs
namespace Go.Proofs.YtblcmnlbapbebaaDoor
open Go.RowKit Go.ChangeShapes Go.WideShapes Go.ChangeAt

section
variable {H : Type} {enc : TypeId × Value → H} {w : World} {spare : Nat → Bool} {held : Bool}

theorem fields_pg : ∃ f0 f1 f2 : Field, Tryd.prog.underlying 55 = some (.struct #[f0, f1, f2]) ∧ (f0.type = 4 ∧ f0.offset = 0) ∧ (f1.type = 9 ∧ f1.offset = 1) ∧ (f2.type = 3 ∧ f2.offset = 2) :=
  ⟨_, _, _, Tryd.underlying55, ⟨rfl, rfl⟩, ⟨rfl, rfl⟩, ⟨rfl, rfl⟩⟩
theorem fields_pn : ∃ f0 f1 f2 : Field, Tryd.prog.underlying 57 = some (.struct #[f0, f1, f2]) ∧ (f0.type = 9 ∧ f0.offset = 0) ∧ (f1.type = 3 ∧ f1.offset = 1) ∧ (f2.type = 3 ∧ f2.offset = 2) :=
  ⟨_, _, _, Tryd.underlying57, ⟨rfl, rfl⟩, ⟨rfl, rfl⟩, ⟨rfl, rfl⟩⟩
theorem fields_pgs : ∃ f0 f1 : Field, Tryd.prog.underlying 25 = some (.struct #[f0, f1]) ∧ (f0.type = 22 ∧ f0.offset = 0) ∧ (f1.type = 23 ∧ f1.offset = 1) :=
  ⟨_, _, Tryd.underlying25, ⟨rfl, rfl⟩, ⟨rfl, rfl⟩⟩
theorem cellsPg : Tryd.prog.cellsOf 55 = 3 := by kernel_rfl
theorem cellsPn : Tryd.prog.cellsOf 57 = 3 := by kernel_rfl
theorem cellsPs : Tryd.prog.cellsOf 25 = 2 := by kernel_rfl
theorem cellsLP : Tryd.prog.cellsOf 22 = 1 := by kernel_rfl
theorem cellsLN : Tryd.prog.cellsOf 23 = 1 := by kernel_rfl

set_option maxRecDepth 100000 in
/-- Three cells that read as a page. -/
theorem open_pg (fuel : Nat) (cs : List Value) (x : DataW H × List MemPlace) (h : DataW.trod enc Tryd.prog w 0 spare held fuel 55 cs = some x) :
    ∃ r : Pg, cs = [(fPg r).1, (fPg r).2.1, (fPg r).2.2] ∧ r.data.size ≤ maxLen := by
  obtain ⟨f0, f1, f2, hu, ⟨t0, o0⟩, ⟨t1, o1⟩, ⟨t2, o2⟩⟩ := fields_pg
  obtain ⟨xs, n, rfl, _, hlen, hxl, hfs⟩ := DataW.trod_struct hu h
  rw [cellsPg] at hlen
  match cs, hlen with
  | [c0, c1, c2], _ =>
  have hx : ∀ i, i < 3 → ∃ y, xs[i]? = some y := fun i hi => ⟨xs[i]'(by simpa [hxl] using hi), List.getElem?_eq_getElem _⟩
  have g0 := hfs 0 f0 rfl
  have g1 := hfs 1 f1 rfl
  have g2 := hfs 2 f2 rfl
  rw [t0, o0, cellsB] at g0
  rw [t1, o1, cellsS] at g1
  rw [t2, o2, cellsI] at g2
  obtain ⟨y0, e0⟩ := hx 0 (by omega)
  obtain ⟨y1, e1⟩ := hx 1 (by omega)
  obtain ⟨y2, e2⟩ := hx 2 (by omega)
  rw [e0] at g0
  rw [e1] at g1
  rw [e2] at g2
  obtain ⟨used, h0, _⟩ := DataW.trod_bool Tryd.underlying4 g0
  have q0 : c0 = .bool used := by simpa using h0
  obtain ⟨data, h1, _, hd⟩ := DataW.trod_string Tryd.underlying9 g1
  have q1 : c1 = .string data := by simpa using h1
  obtain ⟨next, h2, _, _⟩ := DataW.trod_int Tryd.underlying3 g2
  have q2 : c2 = .int .i64 next := by simpa using h2
  subst q0 q1 q2
  exact ⟨⟨used, data, next⟩, rfl, hd⟩

set_option maxRecDepth 100000 in
/-- Three cells that read as a kept name. -/
theorem open_pn (fuel : Nat) (cs : List Value) (x : DataW H × List MemPlace) (h : DataW.trod enc Tryd.prog w 0 spare held fuel 57 cs = some x) :
    ∃ r : Pn, cs = [(fPn r).1, (fPn r).2.1, (fPn r).2.2] ∧ r.name.size ≤ maxLen := by
  obtain ⟨f0, f1, f2, hu, ⟨t0, o0⟩, ⟨t1, o1⟩, ⟨t2, o2⟩⟩ := fields_pn
  obtain ⟨xs, n, rfl, _, hlen, hxl, hfs⟩ := DataW.trod_struct hu h
  rw [cellsPn] at hlen
  match cs, hlen with
  | [c0, c1, c2], _ =>
  have hx : ∀ i, i < 3 → ∃ y, xs[i]? = some y := fun i hi => ⟨xs[i]'(by simpa [hxl] using hi), List.getElem?_eq_getElem _⟩
  have g0 := hfs 0 f0 rfl
  have g1 := hfs 1 f1 rfl
  have g2 := hfs 2 f2 rfl
  rw [t0, o0, cellsS] at g0
  rw [t1, o1, cellsI] at g1
  rw [t2, o2, cellsI] at g2
  obtain ⟨y0, e0⟩ := hx 0 (by omega)
  obtain ⟨y1, e1⟩ := hx 1 (by omega)
  obtain ⟨y2, e2⟩ := hx 2 (by omega)
  rw [e0] at g0
  rw [e1] at g1
  rw [e2] at g2
  obtain ⟨name, h0, _, hd⟩ := DataW.trod_string Tryd.underlying9 g0
  have q0 : c0 = .string name := by simpa using h0
  obtain ⟨first, h1, _, _⟩ := DataW.trod_int Tryd.underlying3 g1
  have q1 : c1 = .int .i64 first := by simpa using h1
  obtain ⟨size, h2, _, _⟩ := DataW.trod_int Tryd.underlying3 g2
  have q2 : c2 = .int .i64 size := by simpa using h2
  subst q0 q1 q2
  exact ⟨⟨name, first, size⟩, rfl, hd⟩

set_option maxRecDepth 100000 in
/-- A slice whose elements read as records of three cells. -/
theorem open_rcs {α : Type} (f : α → V3) (sz : α → Nat) {t e : TypeId} (ht : Tryd.prog.underlying t = some (.slice e)) (hce : Tryd.prog.cellsOf e = 3)
    (hopen : ∀ (fuel : Nat) (cs : List Value) (x : DataW H × List MemPlace), DataW.trod enc Tryd.prog w 0 spare held fuel e cs = some x → ∃ r : α, cs = [(f r).1, (f r).2.1, (f r).2.2] ∧ sz r ≤ maxLen)
    {fuel : Nat} {v : Value} {x : DataW H × List MemPlace} (h : DataW.trod enc Tryd.prog w 0 spare held fuel t [v] = some x) : ∃ l : List α, RcsAt f w 0 w.heap.size v l ∧ ∀ (i : Nat) (h : i < l.length), sz l[i] ≤ maxLen := by
  match fuel, h with
  | 0, h => simp [DataW.trod] at h
  | n + 1, h =>
  rcases DataW.trod_slice ht h with ⟨hcs, _⟩ | ⟨a, len, cap, elems, rest, n', hn', hcs, _, _, hl, hcm, hel, hcell, _, _⟩
  · simp only [List.cons.injEq, and_true] at hcs
    subst hcs
    exact ⟨[], ⟨none, 0, rfl, Nat.zero_le _, fun h => by simp at h⟩, fun i h => by simp at h⟩
  · simp only [List.cons.injEq, and_true] at hcs
    subst hcs
    have hkid : ∀ i, i < len → ∃ r : α, (∃ cs', w.cells? 0 (a.add (i * 3)) 3 = some cs' ∧ cs' = [(f r).1, (f r).2.1, (f r).2.2]) ∧ sz r ≤ maxLen := fun i hi => by
      have h1 := hcell i hi
      rw [hce, List.getElem?_eq_getElem (by omega)] at h1
      obtain ⟨cs', hc', ht'⟩ := Option.bind_eq_some_iff.1 h1
      obtain ⟨t, he, hr⟩ := hopen n' cs' _ ht'
      exact ⟨t, ⟨cs', hc', he⟩, hr⟩
    obtain ⟨g, hg⟩ : ∃ g : Nat → Option α, ∀ i, i < len → ∃ r : α, g i = some r ∧ (∃ cs', w.cells? 0 (a.add (i * 3)) 3 = some cs' ∧ cs' = [(f r).1, (f r).2.1, (f r).2.2]) ∧ sz r ≤ maxLen := by
      refine ⟨fun i => if h : i < len then some (Classical.choose (hkid i h)) else none, fun i hi => ?_⟩
      exact ⟨_, dif_pos hi, Classical.choose_spec (hkid i hi)⟩
    obtain ⟨kids, hk1, hk2⟩ : ∃ kids : List α, kids.length = len ∧ ∀ i (h : i < kids.length), g i = some kids[i] := by
      exact list_of g len fun i hi => by obtain ⟨t, ht, _⟩ := hg i hi; exact ⟨t, ht⟩
    refine ⟨kids, ⟨some a, cap, by rw [hk1], by rw [hk1]; omega, fun h0 => ?_⟩, fun i hi => ?_⟩
    · obtain ⟨b, o, spot⟩ := a
      obtain ⟨_, _, ⟨cs0, hc0, _⟩, _⟩ := hg 0 (by omega)
      have hc00 := (World.cells?_some hc0).2.2 0 (by omega)
      have hlen0 := (World.cells?_some hc0).2.1
      rw [List.getElem?_eq_getElem (by omega)] at hc00
      have hspot : spot = none := by simpa [Addr.add] using World.cell?_spot hc00
      subst hspot
      refine ⟨b, o, rfl, Nat.zero_le _, World.block_lt_of_cell? w _ hc00, fun i hi => ?_⟩
      obtain ⟨t, hft, ⟨cs', hc', hcs'⟩, hr⟩ := hg i (by omega)
      have et : t = kids[i] := by have := hk2 i hi; rw [hft] at this; exact Option.some.inj this
      subst et
      have hcc := (World.cells?_some hc').2.2
      subst hcs'
      simp only [add_at] at hcc
      exact ⟨hcc 0 (by omega), hcc 1 (by omega), hcc 2 (by omega)⟩
    · obtain ⟨t, hft, _, hr⟩ := hg i (by omega)
      have et : t = kids[i] := by have := hk2 i hi; rw [hft] at this; exact Option.some.inj this
      rw [← et]; exact hr

set_option maxRecDepth 100000 in
/-- Two cells that read as pages with their names. -/
theorem open_pages (fuel : Nat) (cs : List Value) (x : DataW H × List MemPlace) (h : DataW.trod enc Tryd.prog w 0 spare held fuel 25 cs = some x) :
    ∃ (P : List Pg) (N : List Pn) (pv nv : Value), cs = [pv, nv] ∧ RcsAt fPg w 0 w.heap.size pv P ∧ RcsAt fPn w 0 w.heap.size nv N ∧ (∀ (i : Nat) (h : i < P.length), P[i].data.size ≤ maxLen) ∧ (∀ (i : Nat) (h : i < N.length), N[i].name.size ≤ maxLen) := by
  obtain ⟨f0, f1, hu, ⟨t0, o0⟩, ⟨t1, o1⟩⟩ := fields_pgs
  obtain ⟨xs, n, rfl, _, hlen, hxl, hfs⟩ := DataW.trod_struct hu h
  rw [cellsPs] at hlen
  match cs, hlen with
  | [c0, c1], _ =>
  have hx : ∀ i, i < 2 → ∃ y, xs[i]? = some y := fun i hi => ⟨xs[i]'(by simpa [hxl] using hi), List.getElem?_eq_getElem _⟩
  have g0 := hfs 0 f0 rfl
  have g1 := hfs 1 f1 rfl
  rw [t0, o0, cellsLP] at g0
  rw [t1, o1, cellsLN] at g1
  obtain ⟨y0, e0⟩ := hx 0 (by omega)
  obtain ⟨y1, e1⟩ := hx 1 (by omega)
  rw [e0] at g0
  rw [e1] at g1
  have g0' : DataW.trod enc Tryd.prog w 0 spare held n 22 [c0] = some y0 := by simpa using g0
  have g1' : DataW.trod enc Tryd.prog w 0 spare held n 23 [c1] = some y1 := by simpa using g1
  obtain ⟨P, hP, hPs⟩ := open_rcs fPg (fun r => r.data.size) Tryd.underlying22 cellsPg open_pg g0'
  obtain ⟨N, hN, hNs⟩ := open_rcs fPn (fun r => r.name.size) Tryd.underlying23 cellsPn open_pn g1'
  exact ⟨P, N, c0, c1, rfl, hP, hN, hPs, hNs⟩

end
end Go.Proofs.YtblcmnlbapbebaaDoor
