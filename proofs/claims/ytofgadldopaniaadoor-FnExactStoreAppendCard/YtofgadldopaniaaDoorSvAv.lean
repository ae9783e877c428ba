/- What StoreAppend answers, as plain values. -/
import Derived.Test.YtofgadldopaniaaDoorSvW
namespace Go.Proofs.YtofgadldopaniaaDoor
open Go.RowKit

/-- What is written for one group more, the store then, and the code. -/
def appendV (s : St) (g : ByteArray) : List Rw × St × Int :=
  if okS s = true then
    if g.size ≤ 600 then
      if s.next + gbl g.size ≤ 12 then (groupV s.gen.toNat s.groups.length s.next.toNat g, ⟨s.gen, s.text, s.groups ++ [g], s.next + gbl g.size⟩, 0) else ([], s, 4)
    else ([], s, 6)
  else ([], zeroS, 1)
theorem okS_next (s : St) (h : okS s = true) : (1 ≤ s.gen ∧ s.gen ≤ 99999) ∧ 0 ≤ s.next ∧ s.next ≤ 12 := by
  obtain ⟨⟨h1, h2, _, h4, h5⟩, _⟩ := okS_out s h
  exact ⟨⟨h1, h2⟩, by omega, h5⟩
theorem appendV_len (s : St) (t : ByteArray) (hl : s.groups.length ≤ 1048576) : (appendV s t).2.1.groups.length ≤ maxLen ∧ (t.size ≤ 1048576 → (appendV s t).1.length ≤ 1000000) ∧ (appendV s t).2.1.groups.length ≤ 1048577 := by
  unfold appendV
  unfold maxLen
  split
  · split
    · split
      · exact ⟨by show (s.groups ++ [t]).length ≤ _; rw [List.length_append]; simp; omega, fun _ => by show (groupV _ _ _ t).length ≤ _; rw [groupV_length]; omega, by show (s.groups ++ [t]).length ≤ _; rw [List.length_append]; simp; omega⟩
      · exact ⟨by show s.groups.length ≤ _; omega, fun _ => by simp, by show s.groups.length ≤ _; omega⟩
    · exact ⟨by show s.groups.length ≤ _; omega, fun _ => by simp, by show s.groups.length ≤ _; omega⟩
  · exact ⟨by simp [zeroS], fun _ => by simp, by simp [zeroS]⟩
theorem appendV_sizes (s : St) (t : ByteArray) (hl : s.groups.length ≤ 1048576) (ht : t.size ≤ 1048576) : ∀ (i : Nat) (h : i < (appendV s t).1.length), (appendV s t).1[i].data.size ≤ maxLen := by
  unfold appendV
  split
  · rename_i hok
    obtain ⟨⟨h1, h2⟩, _⟩ := okS_next s hok
    split
    · split
      · exact groupV_sizes _ _ _ t (by omega) (by omega) (by omega)
      · intro i h; simp at h
    · intro i h; simp at h
  · intro i h; simp at h
theorem appendV_grp (s : St) (t : ByteArray) (hs : ∀ (i : Nat) (h : i < s.groups.length), s.groups[i].size ≤ maxLen) (ht : t.size ≤ 1048576) : ∀ (i : Nat) (h : i < (appendV s t).2.1.groups.length), (appendV s t).2.1.groups[i].size ≤ maxLen := by
  unfold appendV
  split
  · split
    · split
      · intro i hi
        show (s.groups ++ [t])[i].size ≤ maxLen
        by_cases hi2 : i < s.groups.length
        · rw [List.getElem_append_left hi2]; exact hs i hi2
        · rw [List.getElem_append_right (by omega), List.getElem_singleton]; unfold maxLen; omega
      · exact hs
    · exact hs
  · intro i h; simp [zeroS] at h

end Go.Proofs.YtofgadldopaniaaDoor
