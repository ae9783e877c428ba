/- Entries that are gathered one by one: their row and their paths' rows, each in a block of its own. -/
import Derived.Test.YtkidfflmbfnogaaDoorEnts
import Derived.Test.YtkidfflmbfnogaaDoorLow
import Derived.Test.YtkidfflmbfnogaaDoorAsd
import Derived.Test.YtkidfflmbfnogaaDoorRf
namespace Go.Proofs.YtkidfflmbfnogaaDoor
open Go.RowKit

structure EAcc (W : World) (lo : Nat) (v : Value) (ms : List Ent) (xs : List Value) (bs : Nat → Nat) : Prop where
  row : W.ownsRow lo 31 5 v ms.length xs
  paths : ∀ (i : Nat) (h : i < ms.length), ∃ pa pc, (xs[i * 5]? = some (.slice pa ms[i].path.length pc) ∧ xs[i * 5 + 1]? = some (.int .i64 ms[i].what) ∧ xs[i * 5 + 2]? = some (.bool ms[i].dir) ∧ xs[i * 5 + 3]? = some (.int .i64 ms[i].mode) ∧ xs[i * 5 + 4]? = some (.string ms[i].data)) ∧ OwnStrs W lo W.heap.size (bs i) (.slice pa ms[i].path.length pc) ms[i].path ∧ ms[i].path.length ≤ pc ∧ pc ≤ maxLen
  at_ : ∀ i, i < ms.length → lo ≤ bs i ∧ bs i < W.heap.size ∧ v.ownBlock ≠ some (bs i)
  asc : ∀ i j, i < ms.length → j < i → bs j < bs i

theorem EAcc.nil (W : World) (lo : Nat) (bs : Nat → Nat) : EAcc W lo (.slice none 0 0) [] [] bs :=
  ⟨World.ownsRow_nil _ _ _ _, fun i h => by simp at h, fun i h => by simp at h, fun i j h => by simp at h⟩
theorem EAcc.kept {A B : World} {lo : Nat} {v : Value} {ms : List Ent} {xs : List Value} {bs : Nat → Nat} {K : Nat → Prop} (h : EAcc A lo v ms xs bs) (hk : Kept K A B) (h1 : ∀ k, v.ownBlock = some k → K k) (h2 : ∀ (i : Nat) (h : i < ms.length), 0 < ms[i].path.length → K (bs i)) : EAcc B lo v ms xs bs := by
  have hlt : ∀ k, v.ownBlock = some k → k < A.heap.size := fun k e => by
    rcases h.row.2 with ⟨e1, _⟩ | ⟨g, cap, cur, e1, _, e3, _⟩
    · rw [e1] at e; simp [Value.ownBlock] at e
    · rw [e1] at e; simp [Value.ownBlock] at e; subst e; exact (Array.getElem?_eq_some_iff.1 e3).1
  refine ⟨ownsRow_same h.row (fun g hg => hk.block g (hlt g hg) (h1 g hg)), fun i hi => ?_, fun i hi => ?_, h.asc⟩
  · obtain ⟨pa, pc, x1, hO, h3⟩ := h.paths i hi
    exact ⟨pa, pc, x1, ownStrs_wide (ownStrs_blk hO (fun h0 => hk.block _ (h.at_ i hi).2.1 (h2 i hi h0))) (Nat.le_refl _) hk.size, h3⟩
  · have := h.at_ i hi
    exact ⟨this.1, Nat.lt_of_lt_of_le this.2.1 hk.size, this.2.2⟩
theorem EAcc.len {W : World} {lo : Nat} {v : Value} {ms : List Ent} {xs : List Value} {bs : Nat → Nat} (h : EAcc W lo v ms xs bs) : ms.length ≤ maxLen := by
  rcases h.row.2 with ⟨_, e⟩ | ⟨g, cap, cur, _, _, _, e1, e2, _⟩
  · omega
  · omega
theorem EAcc.add {W W2 W3 : World} {lo : Nat} {v v' : Value} {ms : List Ent} {xs : List Value} {bs : Nat → Nat} (h : EAcc W lo v ms xs bs) (hlo : lo ≤ W.heap.size) {m : Ent} {pa : Option Addr} {pc : Nat}
    (hb2 : Below W.heap.size W W2) (hz : W.heap.size < W2.heap.size) (hp : W2.ownsRow W.heap.size 9 1 (.slice pa m.path.length pc) m.path.length (m.path.map .string)) (hsz : ∀ (i : Nat) (h : i < m.path.length), m.path[i].size ≤ maxLen)
    (hg : W2.grownBy W3 v.ownBlock) (hr : W3.ownsRow lo 31 5 v' (ms.length + 1) (xs ++ [.slice pa m.path.length pc, .int .i64 m.what, .bool m.dir, .int .i64 m.mode, .string m.data])) (hv : v'.ownBlock = v.ownBlock ∨ v'.ownBlock = some W2.heap.size) :
    ∃ bs', EAcc W3 lo v' (ms ++ [m]) (xs ++ [.slice pa m.path.length pc, .int .i64 m.what, .bool m.dir, .int .i64 m.mode, .string m.data]) bs' ∧ (∀ i, i < ms.length → bs' i = bs i) ∧ W.heap.size ≤ bs' ms.length := by
  have hvlt : ∀ k, v.ownBlock = some k → k < W.heap.size := fun k e => by
    rcases h.row.2 with ⟨e1, _⟩ | ⟨g, cap, cur, e1, _, e3, _⟩
    · rw [e1] at e; simp [Value.ownBlock] at e
    · rw [e1] at e; simp [Value.ownBlock] at e; subst e; exact (Array.getElem?_eq_some_iff.1 e3).1
  have hxl : xs.length = ms.length * 5 := h.row.1
  obtain ⟨g, hg1, hg2, hgo, hpc1, hpc2⟩ : ∃ g, W.heap.size ≤ g ∧ g < W2.heap.size ∧ OwnStrs W2 W.heap.size W2.heap.size g (.slice pa m.path.length pc) m.path ∧ m.path.length ≤ pc ∧ pc ≤ maxLen := by
    rcases hp.2 with ⟨e1, e2⟩ | ⟨g, cap, cur, e1, e2, e3, e4, e5, _⟩
    · have hnil : m.path = [] := List.eq_nil_of_length_eq_zero e2
      simp only [Value.slice.injEq] at e1
      refine ⟨W.heap.size, Nat.le_refl _, hz, ?_, by omega, by omega⟩
      rw [hnil]
      exact ownStrs_nil _ _ _ _ _ _
    · have hlt := (Array.getElem?_eq_some_iff.1 e3).1
      simp only [Value.slice.injEq, true_and] at e1
      obtain ⟨rfl, rfl⟩ := e1
      exact ⟨g, e2, hlt, ownStrs_of_row hp (by omega) hsz g (.inl rfl), e4, e5⟩
  have hk3 : Kept (fun k => v.ownBlock ≠ some k) W2 W3 := ⟨hg.os, hg.tape, hg.output, hg.size, fun k hk hne => hg.block k hk (fun e => hne e.symm)⟩
  have hgv : v.ownBlock ≠ some g := fun e => by have := hvlt g e; omega
  have hk2 : Kept (fun k => v.ownBlock ≠ some k) W W3 := (Kept.of_new hb2).trans hk3
  refine ⟨fun i => if i = ms.length then g else bs i, ⟨by simpa using hr, fun i hi => ?_, fun i hi => ?_, fun i j hi hj => ?_⟩, fun i hi => if_neg (by omega), by simp; exact hg1⟩
  · by_cases e : i = ms.length
    · subst e
      refine ⟨pa, pc, ⟨?_, ?_, ?_, ?_, ?_⟩, ?_, ?_⟩
      · rw [List.getElem?_append_right (by omega), hxl]; simp
      · rw [List.getElem?_append_right (by omega), hxl]; simp
      · rw [List.getElem?_append_right (by omega), hxl]; simp
      · rw [List.getElem?_append_right (by omega), hxl]; simp
      · rw [List.getElem?_append_right (by omega), hxl]; simp
      · simp only [if_true, List.getElem_append_right (Nat.le_refl _), Nat.sub_self, List.getElem_singleton]
        exact ownStrs_wide (ownStrs_blk hgo (fun _ => hk3.block g hg2 hgv)) hlo hk3.size
      · simp only [List.getElem_append_right (Nat.le_refl _), Nat.sub_self, List.getElem_singleton]
        exact ⟨hpc1, hpc2⟩
    · have hi2 : i < ms.length := by simp at hi; omega
      obtain ⟨qa, qc, ⟨x1, x2, x3, x4, x5⟩, hO, h3⟩ := h.paths i hi2
      have := h.at_ i hi2
      rw [if_neg e, List.getElem_append_left hi2]
      refine ⟨qa, qc, ⟨?_, ?_, ?_, ?_, ?_⟩, ownStrs_wide (ownStrs_blk hO (fun _ => hk2.block _ this.2.1 this.2.2)) (Nat.le_refl _) hk2.size, h3⟩
      · rw [List.getElem?_append_left (by omega)]; exact x1
      · rw [List.getElem?_append_left (by omega)]; exact x2
      · rw [List.getElem?_append_left (by omega)]; exact x3
      · rw [List.getElem?_append_left (by omega)]; exact x4
      · rw [List.getElem?_append_left (by omega)]; exact x5
  · have hs3 := hk3.size
    by_cases e : i = ms.length
    · simp only [e, if_true]
      refine ⟨by omega, by omega, fun e2 => ?_⟩
      rcases hv with e3 | e3
      · rw [e3] at e2; exact hgv e2
      · rw [e3] at e2; simp at e2; omega
    · have hi2 : i < ms.length := by simp at hi; omega
      have := h.at_ i hi2
      have hb2s := hb2.size
      simp only [e, if_false]
      refine ⟨this.1, by omega, fun e2 => ?_⟩
      rcases hv with e3 | e3
      · rw [e3] at e2; exact this.2.2 e2
      · rw [e3] at e2; simp at e2; omega
  · by_cases e : i = ms.length
    · have hj2 : j < ms.length := by omega
      simp only [e, if_true, if_neg (Nat.ne_of_lt hj2)]
      have := h.at_ j hj2
      omega
    · have hi2 : i < ms.length := by simp at hi; omega
      rw [if_neg e, if_neg (by omega)]
      exact h.asc i j hi2 hj

end Go.Proofs.YtkidfflmbfnogaaDoor
