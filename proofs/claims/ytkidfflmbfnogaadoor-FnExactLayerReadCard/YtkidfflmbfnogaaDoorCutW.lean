/- The specification's cutting, at the three bytes it cuts at; what a path's text is cut into. -/
import Derived.Test.YtkidfflmbfnogaaDoorCutS
import Derived.Test.YtkidfflmbfnogaaDoorOwnR
import Derived.Test.YtkidfflmbfnogaaDoorRdP
namespace Go.Proofs.YtkidfflmbfnogaaDoor
open Go.RowKit

theorem row_strs {w : World} {base : Nat} {a : Option Addr} {cap : Nat} {l : List ByteArray} (h : w.ownsRow base 9 1 (.slice a l.length cap) l.length (l.map .string)) (hi : 0 < l.length) : ∃ g, a = some ⟨g, 0, none⟩ ∧ base ≤ g ∧ g < w.heap.size ∧ (l.length ≤ cap ∧ cap ≤ maxLen) ∧ ∀ (j : Nat) (hj : j < l.length), w.cell? ⟨g, j, none⟩ = some (.string l[j]) := by
  have h2 := h
  rcases h2.2 with ⟨_, e⟩ | ⟨g, cap', cur, e1, e2, e3, e4, e5, _⟩
  · omega
  · simp only [Value.slice.injEq, true_and] at e1
    obtain ⟨rfl, rfl⟩ := e1
    refine ⟨g, rfl, e2, (Array.getElem?_eq_some_iff.1 e3).1, ⟨e4, e5⟩, fun j hj => ?_⟩
    have := h.cellAt j (by omega)
    rw [this, List.getElem?_map, List.getElem?_eq_getElem hj]; rfl
theorem cutB_pos (c : UInt8) (s : ByteArray) : 0 < (cutB c s).length := by
  unfold cutB
  rw [List.length_map]
  exact List.length_pos_iff.2 (segs_ne _ _)
theorem cutB_root {b : ByteArray} (h : b.data.toList.head? = some 47) : cutB 47 b = ⟨#[]⟩ :: cutB 47 (b.extract 1 b.size) := by
  unfold cutB
  rw [extract_list, List.take_of_length_le (by simp)]
  cases hl : b.data.toList with
  | nil => rw [hl] at h; simp at h
  | cons x r =>
    rw [hl] at h
    simp at h
    rw [h, segs, if_pos rfl]
    rfl

theorem cut10 (s : ByteArray) (w : World) (hs : s.size ≤ 1048576) : Calls Tryd.prog 9 #[.string s, .int .u8 10] w fun e w' => ∃ a cap, e = .returned (.slice a (cutB 10 s).length cap) ∧ w'.ownsRow w.heap.size 9 1 (.slice a (cutB 10 s).length cap) (cutB 10 s).length ((cutB 10 s).map .string) ∧ Below w.heap.size w w' := l1Cut_any s 10 w hs
theorem cut32 (s : ByteArray) (w : World) (hs : s.size ≤ 1048576) : Calls Tryd.prog 9 #[.string s, .int .u8 32] w fun e w' => ∃ a cap, e = .returned (.slice a (cutB 32 s).length cap) ∧ w'.ownsRow w.heap.size 9 1 (.slice a (cutB 32 s).length cap) (cutB 32 s).length ((cutB 32 s).map .string) ∧ Below w.heap.size w w' := l1Cut_any s 32 w hs
theorem cut47 (s : ByteArray) (w : World) (hs : s.size ≤ 1048576) : Calls Tryd.prog 9 #[.string s, .int .u8 47] w fun e w' => ∃ a cap, e = .returned (.slice a (cutB 47 s).length cap) ∧ w'.ownsRow w.heap.size 9 1 (.slice a (cutB 47 s).length cap) (cutB 47 s).length ((cutB 47 s).map .string) ∧ Below w.heap.size w w' := l1Cut_any s 47 w hs

theorem six_facts {b : ByteArray} {W w4 : World} {pa : Option Addr} {pc : Nat} (hh : b.data.toList.head? = some 47) (hO : w4.ownsRow W.heap.size 9 1 (.slice pa (cutB 47 b).length pc) (cutB 47 b).length ((cutB 47 b).map .string)) {P : List ByteArray} (hP : cutB 47 (b.extract 1 b.size) = P) :
    ∃ gp, pa = some ⟨gp, 0, none⟩ ∧ W.heap.size ≤ gp ∧ gp < w4.heap.size ∧ (P.length + 1 ≤ pc ∧ pc ≤ maxLen) ∧ ∀ (j : Nat) (h : j < P.length), w4.cell? ⟨gp, 1 + j, none⟩ = some (.string P[j]) := by
  subst hP
  obtain ⟨gp, h1, h2, h3, h4, h5⟩ := row_strs hO (cutB_pos _ _)
  have e := cutB_root hh
  refine ⟨gp, h1, h2, h3, by rw [e] at h4; exact h4, fun j hj => ?_⟩
  have := h5 (1 + j) (by rw [e]; simp; omega)
  rw [this]
  simp only [e, Nat.add_comm 1 j, List.getElem_cons_succ]

end Go.Proofs.YtkidfflmbfnogaaDoor
