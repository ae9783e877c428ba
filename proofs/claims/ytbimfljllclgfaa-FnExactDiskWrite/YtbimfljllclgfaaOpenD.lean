/- A disk that came in, opened. -/
import Derived.Test.YtbimfljllclgfaaOpenS
namespace Go.Proofs.Ytbimfljllclgfaa
open Go.RowKit Go.ChangeShapes Go.WideShapes Go.ChangeAt

section
variable {H : Type} {enc : TypeId × Value → H} {w : World} {spare : Nat → Bool} {held : Bool}

theorem fields_disk : ∃ f0 : Field, Try.prog.underlying 24 = some (.struct #[f0]) ∧ (f0.type = 22 ∧ f0.offset = 0) :=
  ⟨_, Try.underlying24, ⟨rfl, rfl⟩⟩
theorem cellsD : Try.prog.cellsOf 24 = 1 := by kernel_rfl

set_option maxRecDepth 100000 in
/-- One cell that reads as a disk. -/
theorem open_disk (fuel : Nat) (cs : List Value) (x : DataW H × List MemPlace) (h : DataW.trod enc Try.prog w 0 spare held fuel 24 cs = some x) :
    ∃ (l : List ByteArray) (v : Value), cs = [v] ∧ StrsAt w 0 w.heap.size v l := by
  obtain ⟨f0, hu, ⟨t0, o0⟩⟩ := fields_disk
  obtain ⟨xs, n, rfl, _, hlen, hxl, hfs⟩ := DataW.trod_struct hu h
  rw [cellsD] at hlen
  match cs, hlen with
  | [c0], _ =>
  have g0 := hfs 0 f0 rfl
  rw [t0, o0, cellsN] at g0
  have e0 : xs[0]? = some (xs[0]'(by simp [hxl])) := List.getElem?_eq_getElem _
  rw [e0] at g0
  have g0' : DataW.trod enc Try.prog w 0 spare held n 22 [c0] = some (xs[0]'(by simp [hxl])) := by simpa using g0
  obtain ⟨l, hs⟩ := open_strs_at g0'
  exact ⟨l, c0, rfl, hs⟩

end
end Go.Proofs.Ytbimfljllclgfaa
