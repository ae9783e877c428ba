/- Raw writes that came in, opened. -/
import Derived.Test.YtbimfljllclgfaaOpenS
import Derived.Test.YtbimfljllclgfaaRw
namespace Go.Proofs.Ytbimfljllclgfaa
open Go.RowKit Go.ChangeShapes Go.WideShapes Go.ChangeAt

section
variable {H : Type} {enc : TypeId × Value → H} {w : World} {spare : Nat → Bool} {held : Bool}

theorem fields_raw : ∃ f0 f1 : Field, Try.prog.underlying 41 = some (.struct #[f0, f1]) ∧ (f0.type = 3 ∧ f0.offset = 0) ∧ (f1.type = 9 ∧ f1.offset = 1) :=
  ⟨_, _, Try.underlying41, ⟨rfl, rfl⟩, ⟨rfl, rfl⟩⟩
theorem cellsR : Try.prog.cellsOf 41 = 2 := by kernel_rfl

set_option maxRecDepth 100000 in
/-- Two cells that read as a write. -/
theorem open_raw (fuel : Nat) (cs : List Value) (x : DataW H × List MemPlace) (h : DataW.trod enc Try.prog w 0 spare held fuel 41 cs = some x) :
    ∃ r : Rw, cs = [.int .i64 r.pos, .string r.data] ∧ r.data.size ≤ maxLen := by
  obtain ⟨f0, f1, hu, ⟨t0, o0⟩, ⟨t1, o1⟩⟩ := fields_raw
  obtain ⟨xs, n, rfl, _, hlen, hxl, hfs⟩ := DataW.trod_struct hu h
  rw [cellsR] at hlen
  match cs, hlen with
  | [c0, c1], _ =>
  have hx : ∀ i, i < 2 → ∃ y, xs[i]? = some y := fun i hi => ⟨xs[i]'(by simpa [hxl] using hi), List.getElem?_eq_getElem _⟩
  have g0 := hfs 0 f0 rfl
  have g1 := hfs 1 f1 rfl
  rw [t0, o0, cellsI] at g0
  rw [t1, o1, cellsS] at g1
  obtain ⟨y0, e0⟩ := hx 0 (by omega)
  obtain ⟨y1, e1⟩ := hx 1 (by omega)
  rw [e0] at g0
  rw [e1] at g1
  obtain ⟨pos, h0, _, _⟩ := DataW.trod_int Try.underlying3 g0
  have q0 : c0 = .int .i64 pos := by simpa using h0
  obtain ⟨data, h1, _, hd⟩ := DataW.trod_string Try.underlying9 g1
  have q1 : c1 = .string data := by simpa using h1
  subst q0 q1
  exact ⟨⟨pos, data⟩, rfl, hd⟩

set_option maxRecDepth 100000 in
theorem open_raws {fuel : Nat} {v : Value} {x : DataW H × List MemPlace} (h : DataW.trod enc Try.prog w 0 spare held fuel 25 [v] = some x) : ∃ l, RwsAt w 0 w.heap.size v l := by
  match fuel, h with
  | 0, h => simp [DataW.trod] at h
  | n + 1, h =>
  rcases DataW.trod_slice Try.underlying25 h with ⟨hcs, _⟩ | ⟨a, len, cap, elems, rest, n', hn', hcs, _, _, hl, hcm, hel, hcell, _, _⟩
  · simp only [List.cons.injEq, and_true] at hcs
    subst hcs
    exact ⟨[], none, 0, rfl, Nat.zero_le _, fun i h => by simp at h, fun h => by simp at h⟩
  · simp only [List.cons.injEq, and_true] at hcs
    subst hcs
    have hkid : ∀ i, i < len → ∃ e : Rw, (∃ cs', w.cells? 0 (a.add (i * 2)) 2 = some cs' ∧ cs' = [.int .i64 e.pos, .string e.data]) ∧ e.data.size ≤ maxLen := fun i hi => by
      have h1 := hcell i hi
      rw [cellsR, List.getElem?_eq_getElem (by omega)] at h1
      obtain ⟨cs', hc', ht'⟩ := Option.bind_eq_some_iff.1 h1
      obtain ⟨t, he, hr⟩ := open_raw n' cs' _ ht'
      exact ⟨t, ⟨cs', hc', he⟩, hr⟩
    obtain ⟨f, hf'⟩ : ∃ f : Nat → Option Rw, ∀ i, i < len → ∃ e : Rw, f i = some e ∧ (∃ cs', w.cells? 0 (a.add (i * 2)) 2 = some cs' ∧ cs' = [.int .i64 e.pos, .string e.data]) ∧ e.data.size ≤ maxLen := by
      refine ⟨fun i => if h : i < len then some (Classical.choose (hkid i h)) else none, fun i hi => ?_⟩
      exact ⟨_, dif_pos hi, Classical.choose_spec (hkid i hi)⟩
    obtain ⟨kids, hk1, hk2⟩ : ∃ kids : List Rw, kids.length = len ∧ ∀ i (h : i < kids.length), f i = some kids[i] := by
      exact list_of f len fun i hi => by obtain ⟨t, ht, _⟩ := hf' i hi; exact ⟨t, ht⟩
    refine ⟨kids, some a, cap, by rw [hk1], by rw [hk1]; omega, fun i hi => ?_, fun h0 => ?_⟩
    · obtain ⟨t, hft, _, hr⟩ := hf' i (by omega)
      have et : t = kids[i] := by have := hk2 i hi; rw [hft] at this; exact Option.some.inj this
      rw [← et]; exact hr
    obtain ⟨b, o, spot⟩ := a
    obtain ⟨_, _, ⟨cs0, hc0, _⟩, _⟩ := hf' 0 (by omega)
    have hc00 := (World.cells?_some hc0).2.2 0 (by omega)
    have hlen0 := (World.cells?_some hc0).2.1
    rw [List.getElem?_eq_getElem (by omega)] at hc00
    have hspot : spot = none := by simpa [Addr.add] using World.cell?_spot hc00
    subst hspot
    refine ⟨b, o, rfl, Nat.zero_le _, World.block_lt_of_cell? w _ hc00, fun i hi => ?_⟩
    obtain ⟨t, hft, ⟨cs', hc', hcs'⟩, hr⟩ := hf' i (by omega)
    have et : t = kids[i] := by have := hk2 i hi; rw [hft] at this; exact Option.some.inj this
    subst et
    have hcc := (World.cells?_some hc').2.2
    subst hcs'
    simp only [add_at] at hcc
    exact ⟨hcc 0 (by omega), hcc 1 (by omega)⟩

end
end Go.Proofs.Ytbimfljllclgfaa
