/- spec.TrailRead. -/
import Derived.Test.YtdonbgedhikocaaDoorRdM
import Derived.Test.YtdonbgedhikocaaDoorMCopy
import Derived.Test.YtdonbgedhikocaaDoorShS
namespace Go.Proofs.YtdonbgedhikocaaDoor
open Go.RowKit

/-- What the specification's TrailRead gives. -/
def ReadS (s : ByteArray) (w : World) (e : Ending) (w' : World) : Prop := match specV s with
  | some ms => ∃ v, e = .returned (.tuple #[v, .bool true]) ∧ MksAt w' w.heap.size w'.heap.size v ms
  | none => ∃ (a : Option Addr) (c : Nat), e = .returned (.tuple #[.slice a 0 c, .bool false])

theorem row_strs {w : World} {base : Nat} {a : Option Addr} {cap : Nat} {l : List ByteArray} (h : w.ownsRow base 9 1 (.slice a l.length cap) l.length (l.map .string)) (hi : 0 < l.length) : ∃ g, a = some ⟨g, 0, none⟩ ∧ base ≤ g ∧ g < w.heap.size ∧ (l.length ≤ cap ∧ cap ≤ maxLen) ∧ ∀ (j : Nat) (hj : j < l.length), w.cell? ⟨g, j, none⟩ = some (.string l[j]) := by
  have h2 := h
  rcases h2.2 with ⟨_, e⟩ | ⟨g, cap', cur, e1, e2, e3, e4, e5, _⟩
  · omega
  · simp only [Value.slice.injEq, true_and] at e1
    obtain ⟨rfl, rfl⟩ := e1
    refine ⟨g, rfl, e2, (Array.getElem?_eq_some_iff.1 e3).1, ⟨e4, e5⟩, fun j hj => ?_⟩
    have := h.cellAt j (by omega)
    rw [this, List.getElem?_map, List.getElem?_eq_getElem hj]; rfl
theorem cutB_pos (c : UInt8) (s : ByteArray) : 0 < (cutB c s).length := by
  unfold cutB
  rw [List.length_map]
  exact List.length_pos_iff.2 (segs_ne _ _)
theorem cutB_root {b : ByteArray} (h : b.data.toList.head? = some 47) : cutB 47 b = ⟨#[]⟩ :: cutB 47 (b.extract 1 b.size) := by
  unfold cutB
  rw [extract_list, List.take_of_length_le (by simp)]
  cases hl : b.data.toList with
  | nil => rw [hl] at h; simp at h
  | cons x r =>
    rw [hl] at h
    simp at h
    rw [h, segs, if_pos rfl]
    rfl

/-- The first k lines' marks, in memory. -/
structure TsI (s : ByteArray) (w : World) (k : Nat) (ov : Value) (wr : World) (ms : List Mk) (xs : List Value) : Prop where
  read : allM (markW pathS) (((cutB 10 s).take k).map (cutB 32)) = some ms
  len : ms.length = k
  row : wr.ownsRow w.heap.size 31 2 ov k xs
  paths : ∀ (i : Nat) (h : i < ms.length), ∃ pa pc, xs[i * 2]? = some (.slice pa ms[i].path.length pc) ∧ xs[i * 2 + 1]? = some (.bool ms[i].sub) ∧
    (0 < ms[i].path.length → ∃ b, pa = some ⟨b, 1, none⟩ ∧ w.heap.size ≤ b ∧ b < wr.heap.size ∧ ov.ownBlock ≠ some b ∧ ∀ (j : Nat) (h : j < ms[i].path.length), wr.cell? ⟨b, 1 + j, none⟩ = some (.string ms[i].path[j]))
  sizes : ∀ (i : Nat) (h : i < ms.length), ms[i].path.length ≤ 1048576 ∧ ∀ (j : Nat) (h : j < ms[i].path.length), ms[i].path[j].size ≤ 1048576
theorem TsI.mks {s : ByteArray} {w : World} {k : Nat} {ov : Value} {wr : World} {ms : List Mk} {xs : List Value} (h : TsI s w k ov wr ms xs) : MksAt wr w.heap.size wr.heap.size ov ms := by
  have hl := h.len
  subst hl
  rcases h.row.2 with ⟨e1, e2⟩ | ⟨g, cap, cur, e1, e2, e3, e4, e5, e6, e7⟩
  · exact ⟨none, 0, by rw [e1, e2], by omega, fun h0 => by omega⟩
  · refine ⟨_, cap, e1, by omega, fun h0 => ⟨g, 0, rfl, e2, (Array.getElem?_eq_some_iff.1 e3).1, fun i hi => ?_⟩⟩
    obtain ⟨pa, pc, x1, x2, hp⟩ := h.paths i hi
    have hb : Blk wr g cur 31 := e3
    have cl : ∀ j u, xs[j]? = some u → wr.cell? ⟨g, j, none⟩ = some u := fun j u hu => by
      refine hb.cell j u ?_
      rw [← e7] at hu
      rw [← Array.getElem?_toList]
      by_cases hj : j < ms.length * 2
      · rwa [List.getElem?_take_of_lt hj] at hu
      · rw [List.getElem?_eq_none (by rw [List.length_take]; omega)] at hu; cases hu
    rw [Nat.zero_add]
    refine ⟨pa, pc, cl _ _ x1, cl _ _ x2, pa, pc, rfl, by have := (h.sizes i hi).1; unfold maxLen; omega, fun j hj => by have := (h.sizes i hi).2 j hj; unfold maxLen; omega, fun h1 => ?_⟩
    obtain ⟨b, q1, q2, q3, _, q5⟩ := hp h1
    exact ⟨b, 1, q1, q2, q3, q5⟩
theorem row_lt {w : World} {base : Nat} {e : TypeId} {sz : Nat} {v : Value} {n : Nat} {xs : List Value} (h : w.ownsRow base e sz v n xs) : ∀ k, v.ownBlock = some k → k < w.heap.size := fun k hk => by
  rcases h.2 with ⟨rfl, _⟩ | ⟨g, cap, cur, rfl, _, e3, _⟩
  · simp [Value.ownBlock] at hk
  · simp [Value.ownBlock] at hk; subst hk; exact (Array.getElem?_eq_some_iff.1 e3).1
theorem TsI.below {s : ByteArray} {w : World} {k : Nat} {ov : Value} {wr W : World} {ms : List Mk} {xs : List Value} (h : TsI s w k ov wr ms xs) (hb : Below wr.heap.size wr W) : TsI s w k ov W ms xs := by
  refine ⟨h.read, h.len, ownsRow_same h.row (fun g hg => hb.block g (row_lt h.row g hg)), fun i hi => ?_, h.sizes⟩
  obtain ⟨pa, pc, x1, x2, hp⟩ := h.paths i hi
  refine ⟨pa, pc, x1, x2, fun h1 => ?_⟩
  obtain ⟨b, q1, q2, q3, q4, q5⟩ := hp h1
  exact ⟨b, q1, q2, Nat.lt_of_lt_of_le q3 hb.size, q4, fun j hj => (hb.cell (p := ⟨b, 1 + j, none⟩) q3).trans (q5 j hj)⟩
theorem TsI.add {s : ByteArray} {w : World} {k : Nat} {ov v' : Value} {wr w5 : World} {ms : List Mk} {xs : List Value} (h : TsI s w k ov wr ms xs) {m : Mk} {pa : Option Addr} {pc : Nat} (hk : k < (cutB 10 s).length) (hm : markW pathS (cutB 32 (cutB 10 s)[k]) = some m)
    (hp : 0 < m.path.length → ∃ b, pa = some ⟨b, 1, none⟩ ∧ w.heap.size ≤ b ∧ b < wr.heap.size ∧ ov.ownBlock ≠ some b ∧ ∀ (j : Nat) (h : j < m.path.length), wr.cell? ⟨b, 1 + j, none⟩ = some (.string m.path[j])) (hsz : m.path.length ≤ 1048576 ∧ ∀ (j : Nat) (h : j < m.path.length), m.path[j].size ≤ 1048576)
    (hg : wr.grownBy w5 ov.ownBlock) (hr : w5.ownsRow w.heap.size 31 2 v' (k + 1) (xs ++ [.slice pa m.path.length pc, .bool m.sub])) (hv : v'.ownBlock = ov.ownBlock ∨ v'.ownBlock = some wr.heap.size) :
    TsI s w (k + 1) v' w5 (ms ++ [m]) (xs ++ [.slice pa m.path.length pc, .bool m.sub]) := by
  have hl := h.len
  have hxl : xs.length = k * 2 := h.row.1
  have go : ∀ (p : List ByteArray) (pa : Option Addr), (0 < p.length → ∃ b, pa = some ⟨b, 1, none⟩ ∧ w.heap.size ≤ b ∧ b < wr.heap.size ∧ ov.ownBlock ≠ some b ∧ ∀ (j : Nat) (h : j < p.length), wr.cell? ⟨b, 1 + j, none⟩ = some (.string p[j])) →
      (0 < p.length → ∃ b, pa = some ⟨b, 1, none⟩ ∧ w.heap.size ≤ b ∧ b < w5.heap.size ∧ v'.ownBlock ≠ some b ∧ ∀ (j : Nat) (h : j < p.length), w5.cell? ⟨b, 1 + j, none⟩ = some (.string p[j])) := by
    intro p pa hp h0
    obtain ⟨b, q1, q2, q3, q4, q5⟩ := hp h0
    refine ⟨b, q1, q2, Nat.lt_of_lt_of_le q3 hg.size, fun e => ?_, fun j hj => ?_⟩
    · rcases hv with e2 | e2
      · exact q4 (e2.symm.trans e)
      · rw [e2] at e; simp at e; omega
    · rw [World.cell?_of_block (w := wr) (hg.block b q3 (fun e => q4 e.symm))]; exact q5 j hj
  refine ⟨?_, by simp [hl], hr, fun i hi => ?_, fun i hi => ?_⟩
  · rw [List.take_succ_eq_append_getElem hk, List.map_append, List.map_singleton, allM_snoc, h.read, hm]
  · by_cases e : i = ms.length
    · subst e
      refine ⟨pa, pc, ?_, ?_, ?_⟩
      · rw [List.getElem?_append_right (by omega), hxl, show ms.length * 2 - k * 2 = 0 from by omega]; simp
      · rw [List.getElem?_append_right (by omega), hxl, show ms.length * 2 + 1 - k * 2 = 1 from by omega]; simp
      · simp only [List.getElem_append_right (Nat.le_refl _), Nat.sub_self, List.getElem_singleton]
        exact go _ _ hp
    · have hi2 : i < ms.length := by simp at hi; omega
      obtain ⟨qa, qc, x1, x2, h3⟩ := h.paths i hi2
      rw [List.getElem_append_left hi2]
      refine ⟨qa, qc, ?_, ?_, go _ _ h3⟩
      · rw [List.getElem?_append_left (by omega)]; exact x1
      · rw [List.getElem?_append_left (by omega)]; exact x2
  · by_cases e : i = ms.length
    · subst e
      simp only [List.getElem_append_right (Nat.le_refl _), Nat.sub_self, List.getElem_singleton]
      exact hsz
    · have hi2 : i < ms.length := by simp at hi; omega
      rw [List.getElem_append_left hi2]
      exact h.sizes i hi2
/-- A line that is no mark ends the reading. -/
theorem spec_no {s : ByteArray} {k : Nat} (hk : k < (cutB 10 s).length) (hk1 : k + 1 < (cutB 10 s).length) (hk2 : k ≤ 6) (hm : markW pathS (cutB 32 (cutB 10 s)[k]) = none) : specV s = none := by
  have h1 : allM (markW pathS) (linesB s) = none := by
    have e : linesB s = ((cutB 10 s).take (k + 1)).map (cutB 32) ++ (((cutB 10 s).dropLast.take 7).drop (k + 1)).map (cutB 32) := by
      unfold linesB
      rw [← List.map_append]
      congr 1
      rw [← List.take_append_drop (k + 1) ((cutB 10 s).dropLast.take 7)]
      congr 1
      · rw [List.take_take, List.dropLast_eq_take, List.take_take]
        congr 1
        omega
      · rw [List.take_append_drop]
    rw [e]
    apply allM_none
    rw [List.take_succ_eq_append_getElem hk, List.map_append, List.map_singleton, allM_snoc, hm]
    cases allM (markW pathS) (((cutB 10 s).take k).map (cutB 32)) <;> rfl
  unfold specV
  rw [h1]
theorem spec_lines {s : ByteArray} {k : Nat} (hk : k + 1 = (cutB 10 s).length ∨ k = 7) (hk2 : k ≤ 7) (hk3 : k + 1 ≤ (cutB 10 s).length) : linesB s = ((cutB 10 s).take k).map (cutB 32) := by
  unfold linesB
  rw [List.dropLast_eq_take, List.take_take]
  congr 2
  omega

end Go.Proofs.YtdonbgedhikocaaDoor
