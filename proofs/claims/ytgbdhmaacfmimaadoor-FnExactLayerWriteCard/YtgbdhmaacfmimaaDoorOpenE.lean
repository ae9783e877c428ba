/- Entries that came in, opened. -/
import Derived.Test.YtgbdhmaacfmimaaDoorOpenS
import Derived.Test.YtgbdhmaacfmimaaDoorEnts
namespace Go.Proofs.YtgbdhmaacfmimaaDoor
open Go.RowKit Go.ChangeShapes Go.WideShapes Go.ChangeAt

section
variable {H : Type} {enc : TypeId × Value → H} {w : World} {spare : Nat → Bool} {held : Bool}

/-- Strings, with what the slice's room is. -/
theorem open_strs_cap {fuel : Nat} {v : Value} {x : DataW H × List MemPlace} (h : DataW.trod enc Tryd.prog w 0 spare held fuel 30 [v] = some x) : ∃ l a cap, v = .slice a l.length cap ∧ StrsAt w 0 w.heap.size v l ∧ l.length ≤ cap ∧ cap ≤ maxLen := by
  have hk := open_strs_at h
  rcases open_strings Tryd.underlying30 Tryd.underlying9 (by kernel_rfl) h with ⟨hcs, _⟩ | ⟨a, len, cap, ss, hcs, _, hl, hm, hz, _, hcell, hws⟩
  · simp only [List.cons.injEq, and_true] at hcs
    subst hcs
    exact ⟨[], none, 0, rfl, ⟨none, 0, rfl, Nat.zero_le _, fun i h => by simp at h, fun h => by simp at h⟩, Nat.le_refl _, Nat.zero_le _⟩
  · simp only [List.cons.injEq, and_true] at hcs
    subst hcs
    obtain ⟨l, hk⟩ := hk
    have hk' := hk
    obtain ⟨a', cap', he, _⟩ := hk'
    simp only [Value.slice.injEq] at he
    obtain ⟨rfl, rfl, rfl⟩ := he
    exact ⟨l, _, _, rfl, hk, hl, hm⟩

theorem fields_entry : ∃ f0 f1 f2 f3 f4 : Field, Tryd.prog.underlying 32 = some (.struct #[f0, f1, f2, f3, f4]) ∧ (f0.type = 30 ∧ f0.offset = 0) ∧ (f1.type = 3 ∧ f1.offset = 1) ∧ (f2.type = 4 ∧ f2.offset = 2) ∧ (f3.type = 3 ∧ f3.offset = 3) ∧ (f4.type = 9 ∧ f4.offset = 4) :=
  ⟨_, _, _, _, _, Tryd.underlying32, ⟨rfl, rfl⟩, ⟨rfl, rfl⟩, ⟨rfl, rfl⟩, ⟨rfl, rfl⟩, ⟨rfl, rfl⟩⟩
theorem cellsE : Tryd.prog.cellsOf 32 = 5 := by kernel_rfl

/-- Five cells that read as an entry. -/
theorem open_entry (fuel : Nat) (cs : List Value) (x : DataW H × List MemPlace) (h : DataW.trod enc Tryd.prog w 0 spare held fuel 32 cs = some x) :
    ∃ (e : Ent) (pa : Option Addr) (pc : Nat), cs = [.slice pa e.path.length pc, .int .i64 e.what, .bool e.dir, .int .i64 e.mode, .string e.data] ∧ EntOk w 0 w.heap.size e pa pc := by
  obtain ⟨f0, f1, f2, f3, f4, hu, ⟨t0, o0⟩, ⟨t1, o1⟩, ⟨t2, o2⟩, ⟨t3, o3⟩, ⟨t4, o4⟩⟩ := fields_entry
  obtain ⟨xs, n, rfl, _, hlen, hxl, hfs⟩ := DataW.trod_struct hu h
  rw [cellsE] at hlen
  match cs, hlen with
  | [c0, c1, c2, c3, c4], _ =>
  have hx : ∀ i, i < 5 → ∃ y, xs[i]? = some y := fun i hi => ⟨xs[i]'(by simpa [hxl] using hi), List.getElem?_eq_getElem _⟩
  have g0 := hfs 0 f0 rfl
  have g1 := hfs 1 f1 rfl
  have g2 := hfs 2 f2 rfl
  have g3 := hfs 3 f3 rfl
  have g4 := hfs 4 f4 rfl
  rw [t0, o0, cellsN] at g0
  rw [t1, o1, cellsI] at g1
  rw [t2, o2, cellsB] at g2
  rw [t3, o3, cellsI] at g3
  rw [t4, o4, cellsS] at g4
  obtain ⟨y0, e0⟩ := hx 0 (by omega)
  obtain ⟨y1, e1⟩ := hx 1 (by omega)
  obtain ⟨y2, e2⟩ := hx 2 (by omega)
  obtain ⟨y3, e3⟩ := hx 3 (by omega)
  obtain ⟨y4, e4⟩ := hx 4 (by omega)
  rw [e0] at g0
  rw [e1] at g1
  rw [e2] at g2
  rw [e3] at g3
  rw [e4] at g4
  obtain ⟨what, h1, _, hw1⟩ := DataW.trod_int Tryd.underlying3 g1
  obtain ⟨dir, h2, _⟩ := DataW.trod_bool Tryd.underlying4 g2
  obtain ⟨mode, h3, _, hw3⟩ := DataW.trod_int Tryd.underlying3 g3
  obtain ⟨data, h4, _, hds⟩ := DataW.trod_string Tryd.underlying9 g4
  have q1 : c1 = .int .i64 what := by simpa using h1
  have q2 : c2 = .bool dir := by simpa using h2
  have q3 : c3 = .int .i64 mode := by simpa using h3
  have q4 : c4 = .string data := by simpa using h4
  have g0' : DataW.trod enc Tryd.prog w 0 spare held n 30 [c0] = some y0 := by simpa using g0
  obtain ⟨path, pa, pc, rfl, hs, hc1, hc2⟩ := open_strs_cap g0'
  subst q1 q2 q3 q4
  exact ⟨⟨path, what, dir, mode, data⟩, pa, pc, rfl, hs, hw1, hw3, hds, hc1, hc2⟩

theorem open_entries {fuel : Nat} {v : Value} {x : DataW H × List MemPlace} (h : DataW.trod enc Tryd.prog w 0 spare held fuel 22 [v] = some x) : ∃ l, EntsAt w 0 w.heap.size v l := by
  match fuel, h with
  | 0, h => simp [DataW.trod] at h
  | n + 1, h =>
  rcases DataW.trod_slice Tryd.underlying22 h with ⟨hcs, _⟩ | ⟨a, len, cap, elems, rest, n', hn', hcs, _, _, hl, hcm, hel, hcell, _, _⟩
  · simp only [List.cons.injEq, and_true] at hcs
    subst hcs
    exact ⟨[], none, 0, rfl, Nat.zero_le _, fun h => by simp at h⟩
  · simp only [List.cons.injEq, and_true] at hcs
    subst hcs
    have hkid : ∀ i, i < len → ∃ e : Ent, ∃ (pa : Option Addr) (pc : Nat), (∃ cs', w.cells? 0 (a.add (i * 5)) 5 = some cs' ∧ cs' = [.slice pa e.path.length pc, .int .i64 e.what, .bool e.dir, .int .i64 e.mode, .string e.data]) ∧ EntOk w 0 w.heap.size e pa pc := fun i hi => by
      have h1 := hcell i hi
      rw [cellsE, List.getElem?_eq_getElem (by omega)] at h1
      obtain ⟨cs', hc', ht'⟩ := Option.bind_eq_some_iff.1 h1
      obtain ⟨t, nv, kv, he, hr⟩ := open_entry n' cs' _ ht'
      exact ⟨t, nv, kv, ⟨cs', hc', he⟩, hr⟩
    obtain ⟨f, hf'⟩ : ∃ f : Nat → Option Ent, ∀ i, i < len → ∃ (e : Ent) (pa : Option Addr) (pc : Nat), f i = some e ∧ (∃ cs', w.cells? 0 (a.add (i * 5)) 5 = some cs' ∧ cs' = [.slice pa e.path.length pc, .int .i64 e.what, .bool e.dir, .int .i64 e.mode, .string e.data]) ∧ EntOk w 0 w.heap.size e pa pc := by
      refine ⟨fun i => if h : i < len then some (Classical.choose (hkid i h)) else none, fun i hi => ?_⟩
      obtain ⟨nv, kv, h2⟩ := Classical.choose_spec (hkid i hi)
      exact ⟨_, nv, kv, dif_pos hi, h2⟩
    obtain ⟨kids, hk1, hk2⟩ : ∃ kids : List Ent, kids.length = len ∧ ∀ i (h : i < kids.length), f i = some kids[i] := by
      exact list_of f len fun i hi => by obtain ⟨t, _, _, ht, _⟩ := hf' i hi; exact ⟨t, ht⟩
    refine ⟨kids, some a, cap, by rw [hk1], by rw [hk1]; omega, fun h0 => ?_⟩
    obtain ⟨b, o, spot⟩ := a
    obtain ⟨_, _, _, _, ⟨cs0, hc0, _⟩, _⟩ := hf' 0 (by omega)
    have hc00 := (World.cells?_some hc0).2.2 0 (by omega)
    have hlen0 := (World.cells?_some hc0).2.1
    rw [List.getElem?_eq_getElem (by omega)] at hc00
    have hspot : spot = none := by simpa [Addr.add] using World.cell?_spot hc00
    subst hspot
    refine ⟨b, o, rfl, Nat.zero_le _, World.block_lt_of_cell? w _ hc00, fun i hi => ?_⟩
    obtain ⟨t, pa, pc, hft, ⟨cs', hc', hcs'⟩, hr⟩ := hf' i (by omega)
    have et : t = kids[i] := by have := hk2 i hi; rw [hft] at this; exact Option.some.inj this
    subst et
    have hcc := (World.cells?_some hc').2.2
    subst hcs'
    simp only [add_at] at hcc
    exact ⟨pa, pc, hcc 0 (by omega), hcc 1 (by omega), hcc 2 (by omega), hcc 3 (by omega), hcc 4 (by omega), hr⟩

end
end Go.Proofs.YtgbdhmaacfmimaaDoor
