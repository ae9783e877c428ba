/- A tree that came in, opened: what can be read of it is a tree of the family, and it lies in memory as 'Rep' says. -/
import Derived.Test.YtifbbbgcdklaaaaOpenS
namespace Go.Proofs.Ytifbbbgcdklaaaa
open Go.RowKit Go.ChangeShapes Go.WideShapes Go.ChangeAt

section
variable {H : Type} {enc : TypeId × Value → H} {w : World} {spare : Nat → Bool} {held : Bool}

theorem fields_tree : ∃ f0 f1 f2 f3 f4 : Field, Try.prog.underlying 25 = some (.struct #[f0, f1, f2, f3, f4]) ∧ (f0.type = 4 ∧ f0.offset = 0) ∧ (f1.type = 3 ∧ f1.offset = 1) ∧ (f2.type = 9 ∧ f2.offset = 2) ∧ (f3.type = 22 ∧ f3.offset = 3) ∧ (f4.type = 23 ∧ f4.offset = 4) :=
  ⟨_, _, _, _, _, Try.underlying25, ⟨rfl, rfl⟩, ⟨rfl, rfl⟩, ⟨rfl, rfl⟩, ⟨rfl, rfl⟩, ⟨rfl, rfl⟩⟩

theorem cells5 : Try.prog.cellsOf 25 = 5 := by kernel_rfl
theorem cellsK : Try.prog.cellsOf 23 = 1 := by kernel_rfl

set_option maxRecDepth 100000 in
/-- Five cells that read as a tree. -/
theorem open_tree_cells : ∀ (m fuel : Nat), fuel ≤ 2 * m → ∀ (cs : List Value) (x : DataW H × List MemPlace), DataW.trod enc Try.prog w 0 spare held fuel 25 cs = some x →
    ∃ (t : T m) (nv kv : Value), cs = [.bool (headT m t).1, .int .i64 (headT m t).2.1, .string (headT m t).2.2, nv, kv] ∧ Rep w 0 w.heap.size m t nv kv
  | 0, fuel, hf, cs, x, h => by
    have : fuel = 0 := by omega
    subst this
    simp [DataW.trod] at h
  | m + 1, fuel, hf, cs, x, h => by
    obtain ⟨f0, f1, f2, f3, f4, hu, ⟨t0, o0⟩, ⟨t1, o1⟩, ⟨t2, o2⟩, ⟨t3, o3⟩, ⟨t4, o4⟩⟩ := fields_tree
    obtain ⟨xs, n, rfl, _, hlen, hxl, hfs⟩ := DataW.trod_struct hu h
    rw [cells5] at hlen
    match cs, hlen with
    | [c0, c1, c2, c3, c4], _ =>
    have hx : ∀ i, i < 5 → ∃ y, xs[i]? = some y := fun i hi => ⟨xs[i]'(by simpa [hxl] using hi), List.getElem?_eq_getElem _⟩
    have g0 := hfs 0 f0 rfl
    have g1 := hfs 1 f1 rfl
    have g2 := hfs 2 f2 rfl
    have g3 := hfs 3 f3 rfl
    have g4 := hfs 4 f4 rfl
    rw [t0, o0, cellsB] at g0
    rw [t1, o1, cellsI] at g1
    rw [t2, o2, cellsS] at g2
    rw [t3, o3, cellsN] at g3
    rw [t4, o4, cellsK] at g4
    obtain ⟨y0, e0⟩ := hx 0 (by omega)
    obtain ⟨y1, e1⟩ := hx 1 (by omega)
    obtain ⟨y2, e2⟩ := hx 2 (by omega)
    obtain ⟨y3, e3⟩ := hx 3 (by omega)
    obtain ⟨y4, e4⟩ := hx 4 (by omega)
    rw [e0] at g0
    rw [e1] at g1
    rw [e2] at g2
    rw [e3] at g3
    rw [e4] at g4
    obtain ⟨dir, hd, _⟩ := DataW.trod_bool Try.underlying4 g0
    obtain ⟨mode, hm, _, hmw⟩ := DataW.trod_int Try.underlying3 g1
    obtain ⟨data, hda, _, hds⟩ := DataW.trod_string Try.underlying9 g2
    have q0 : c0 = .bool dir := by simpa using hd
    have q1 : c1 = .int .i64 mode := by simpa using hm
    have q2 : c2 = .string data := by simpa using hda
    have g3' : DataW.trod enc Try.prog w 0 spare held n 22 [c3] = some y3 := by simpa using g3
    have g4' : DataW.trod enc Try.prog w 0 spare held n 23 [c4] = some y4 := by simpa using g4
    obtain ⟨names, hnames⟩ := open_strs_at g3'
    subst q0 q1 q2
    rcases DataW.trod_slice Try.underlying23 g4' with ⟨hcs, _⟩ | ⟨a, len, cap, elems, rest, n', hn', hcs, _, _, hl, hcm, hel, hcell, _, _⟩
    · simp only [List.cons.injEq, and_true] at hcs
      subst hcs
      exact ⟨(⟨dir, mode, data, names, []⟩ : Nd (T m)), c3, _, rfl, hds, hmw, hnames, none, 0, rfl, Nat.zero_le _, fun h => by simp at h⟩
    · simp only [List.cons.injEq, and_true] at hcs
      subst hcs
      subst hn'
      have hkid : ∀ i, i < len → ∃ (t : T m) (nv kv : Value), (∃ cs', w.cells? 0 (a.add (i * 5)) 5 = some cs' ∧ cs' = [.bool (headT m t).1, .int .i64 (headT m t).2.1, .string (headT m t).2.2, nv, kv]) ∧ Rep w 0 w.heap.size m t nv kv := fun i hi => by
        have h1 := hcell i hi
        rw [cells5, List.getElem?_eq_getElem (by omega)] at h1
        obtain ⟨cs', hc', ht'⟩ := Option.bind_eq_some_iff.1 h1
        obtain ⟨t, nv, kv, he, hr⟩ := open_tree_cells m n' (by omega) cs' _ ht'
        exact ⟨t, nv, kv, ⟨cs', hc', he⟩, hr⟩
      obtain ⟨f, hf'⟩ : ∃ f : Nat → Option (T m), ∀ i, i < len → ∃ (t : T m) (nv kv : Value), f i = some t ∧ (∃ cs', w.cells? 0 (a.add (i * 5)) 5 = some cs' ∧ cs' = [.bool (headT m t).1, .int .i64 (headT m t).2.1, .string (headT m t).2.2, nv, kv]) ∧ Rep w 0 w.heap.size m t nv kv := by
        refine ⟨fun i => if h : i < len then some (Classical.choose (hkid i h)) else none, fun i hi => ?_⟩
        obtain ⟨nv, kv, h2⟩ := Classical.choose_spec (hkid i hi)
        exact ⟨_, nv, kv, dif_pos hi, h2⟩
      obtain ⟨kids, hk1, hk2⟩ : ∃ kids : List (T m), kids.length = len ∧ ∀ i (h : i < kids.length), f i = some kids[i] := by
        exact list_of f len fun i hi => by obtain ⟨t, _, _, ht, _⟩ := hf' i hi; exact ⟨t, ht⟩
      refine ⟨(⟨dir, mode, data, names, kids⟩ : Nd (T m)), c3, _, rfl, hds, hmw, hnames, some a, cap, by rw [hk1], by rw [hk1]; omega, fun h0 => ?_⟩
      have h0 : 0 < kids.length := h0
      obtain ⟨b, o, spot⟩ := a
      obtain ⟨_, _, _, _, ⟨cs0, hc0, _⟩, _⟩ := hf' 0 (by omega)
      have hc00 := (World.cells?_some hc0).2.2 0 (by omega)
      have hlen0 := (World.cells?_some hc0).2.1
      rw [List.getElem?_eq_getElem (by omega)] at hc00
      have hspot : spot = none := by simpa [Addr.add] using World.cell?_spot hc00
      subst hspot
      refine ⟨b, o, rfl, Nat.zero_le _, World.block_lt_of_cell? w _ hc00, fun i hi => ?_⟩
      have hi : i < kids.length := hi
      obtain ⟨t, nv, kv, hft, ⟨cs', hc', hcs'⟩, hr⟩ := hf' i (by omega)
      have et : t = kids[i] := by have := hk2 i hi; rw [hft] at this; exact Option.some.inj this
      subst et
      have hcc := (World.cells?_some hc').2.2
      subst hcs'
      simp only [add_at] at hcc
      exact ⟨nv, kv, hcc 0 (by omega), hcc 1 (by omega), hcc 2 (by omega), hcc 3 (by omega), hcc 4 (by omega), hr⟩

end
end Go.Proofs.Ytifbbbgcdklaaaa
