/- Marks that came in, opened. -/
import Derived.Test.YtjnfdjoglmbnoaaOpenS
import Derived.Test.YtjnfdjoglmbnoaaMk0
namespace Go.Proofs.Ytjnfdjoglmbnoaa
open Go.RowKit Go.ChangeShapes Go.WideShapes Go.ChangeAt

section
variable {H : Type} {enc : TypeId × Value → H} {w : World} {spare : Nat → Bool} {held : Bool}

theorem fields_mark : ∃ f0 f1 : Field, Try.prog.underlying 32 = some (.struct #[f0, f1]) ∧ (f0.type = 30 ∧ f0.offset = 0) ∧ (f1.type = 4 ∧ f1.offset = 1) :=
  ⟨_, _, Try.underlying32, ⟨rfl, rfl⟩, ⟨rfl, rfl⟩⟩
theorem cellsM : Try.prog.cellsOf 32 = 2 := by kernel_rfl

set_option maxRecDepth 100000 in
/-- Two cells that read as a mark. -/
theorem open_mark (fuel : Nat) (cs : List Value) (x : DataW H × List MemPlace) (h : DataW.trod enc Try.prog w 0 spare held fuel 32 cs = some x) :
    ∃ (e : Mk) (pa : Option Addr) (pc : Nat), cs = [.slice pa e.path.length pc, .bool e.sub] ∧ StrsAt w 0 w.heap.size (.slice pa e.path.length pc) e.path := by
  obtain ⟨f0, f1, hu, ⟨t0, o0⟩, ⟨t1, o1⟩⟩ := fields_mark
  obtain ⟨xs, n, rfl, _, hlen, hxl, hfs⟩ := DataW.trod_struct hu h
  rw [cellsM] at hlen
  match cs, hlen with
  | [c0, c1], _ =>
  have hx : ∀ i, i < 2 → ∃ y, xs[i]? = some y := fun i hi => ⟨xs[i]'(by simpa [hxl] using hi), List.getElem?_eq_getElem _⟩
  have g0 := hfs 0 f0 rfl
  have g1 := hfs 1 f1 rfl
  rw [t0, o0, cellsN] at g0
  rw [t1, o1, cellsB] at g1
  obtain ⟨y0, e0⟩ := hx 0 (by omega)
  obtain ⟨y1, e1⟩ := hx 1 (by omega)
  rw [e0] at g0
  rw [e1] at g1
  obtain ⟨sub, h1, _⟩ := DataW.trod_bool Try.underlying4 g1
  have q1 : c1 = .bool sub := by simpa using h1
  have g0' : DataW.trod enc Try.prog w 0 spare held n 30 [c0] = some y0 := by simpa using g0
  obtain ⟨path, hs⟩ := open_strs_at g0'
  obtain ⟨pa, pc, rfl, _⟩ := id hs
  subst q1
  exact ⟨⟨path, sub⟩, pa, pc, rfl, hs⟩

set_option maxRecDepth 100000 in
theorem open_marks {fuel : Nat} {v : Value} {x : DataW H × List MemPlace} (h : DataW.trod enc Try.prog w 0 spare held fuel 22 [v] = some x) : ∃ l, MksAt w 0 w.heap.size v l := by
  match fuel, h with
  | 0, h => simp [DataW.trod] at h
  | n + 1, h =>
  rcases DataW.trod_slice Try.underlying22 h with ⟨hcs, _⟩ | ⟨a, len, cap, elems, rest, n', hn', hcs, _, _, hl, hcm, hel, hcell, _, _⟩
  · simp only [List.cons.injEq, and_true] at hcs
    subst hcs
    exact ⟨[], none, 0, rfl, Nat.zero_le _, fun h => by simp at h⟩
  · simp only [List.cons.injEq, and_true] at hcs
    subst hcs
    have hkid : ∀ i, i < len → ∃ e : Mk, ∃ (pa : Option Addr) (pc : Nat), (∃ cs', w.cells? 0 (a.add (i * 2)) 2 = some cs' ∧ cs' = [.slice pa e.path.length pc, .bool e.sub]) ∧ StrsAt w 0 w.heap.size (.slice pa e.path.length pc) e.path := fun i hi => by
      have h1 := hcell i hi
      rw [cellsM, List.getElem?_eq_getElem (by omega)] at h1
      obtain ⟨cs', hc', ht'⟩ := Option.bind_eq_some_iff.1 h1
      obtain ⟨t, nv, kv, he, hr⟩ := open_mark n' cs' _ ht'
      exact ⟨t, nv, kv, ⟨cs', hc', he⟩, hr⟩
    obtain ⟨f, hf'⟩ : ∃ f : Nat → Option Mk, ∀ i, i < len → ∃ (e : Mk) (pa : Option Addr) (pc : Nat), f i = some e ∧ (∃ cs', w.cells? 0 (a.add (i * 2)) 2 = some cs' ∧ cs' = [.slice pa e.path.length pc, .bool e.sub]) ∧ StrsAt w 0 w.heap.size (.slice pa e.path.length pc) e.path := by
      refine ⟨fun i => if h : i < len then some (Classical.choose (hkid i h)) else none, fun i hi => ?_⟩
      obtain ⟨nv, kv, h2⟩ := Classical.choose_spec (hkid i hi)
      exact ⟨_, nv, kv, dif_pos hi, h2⟩
    obtain ⟨kids, hk1, hk2⟩ : ∃ kids : List Mk, kids.length = len ∧ ∀ i (h : i < kids.length), f i = some kids[i] := by
      exact list_of f len fun i hi => by obtain ⟨t, _, _, ht, _⟩ := hf' i hi; exact ⟨t, ht⟩
    refine ⟨kids, some a, cap, by rw [hk1], by rw [hk1]; omega, fun h0 => ?_⟩
    obtain ⟨b, o, spot⟩ := a
    obtain ⟨_, _, _, _, ⟨cs0, hc0, _⟩, _⟩ := hf' 0 (by omega)
    have hc00 := (World.cells?_some hc0).2.2 0 (by omega)
    have hlen0 := (World.cells?_some hc0).2.1
    rw [List.getElem?_eq_getElem (by omega)] at hc00
    have hspot : spot = none := by simpa [Addr.add] using World.cell?_spot hc00
    subst hspot
    refine ⟨b, o, rfl, Nat.zero_le _, World.block_lt_of_cell? w _ hc00, fun i hi => ?_⟩
    obtain ⟨t, pa, pc, hft, ⟨cs', hc', hcs'⟩, hr⟩ := hf' i (by omega)
    have et : t = kids[i] := by have := hk2 i hi; rw [hft] at this; exact Option.some.inj this
    subst et
    have hcc := (World.cells?_some hc').2.2
    subst hcs'
    simp only [add_at] at hcc
    exact ⟨pa, pc, hcc 0 (by omega), hcc 1 (by omega), hr⟩

end
end Go.Proofs.Ytjnfdjoglmbnoaa
