/- Lines and words of a text, as the program's own walk over runes tells them: the plain part. -/
import Derived.Test.YtkidfflmbfnogaaDoorCut
namespace Go.Proofs.YtkidfflmbfnogaaDoor

/-- The cutting of what lies from lb to k. -/
def CutIn (c : UInt8) (s : ByteArray) (lb k f : Nat) (ys : List ByteArray) : Prop := lb ≤ f ∧ f ≤ k ∧ (segs c ((s.data.toList.take k).drop lb)).map ofL = ys ++ [s.extract f k]
theorem cutIn_start (c : UInt8) (s : ByteArray) (k : Nat) : CutIn c s k k k [] := by
  refine ⟨Nat.le_refl _, Nat.le_refl _, ?_⟩
  rw [List.nil_append, ← ofL_extract, List.drop_eq_nil_of_le (by rw [List.length_take]; omega), segs, List.map_singleton]
theorem cutIn_parts {c : UInt8} {s : ByteArray} {lb k f : Nat} {ys : List ByteArray} (h : CutIn c s lb k f ys) : ∃ L, L.map ofL = ys ∧ segs c ((s.data.toList.take k).drop lb) = L ++ [(s.data.toList.take k).drop f] := by
  obtain ⟨_, _, h⟩ := h
  rw [← ofL_extract] at h
  obtain ⟨L, M, e, h1, h2⟩ := List.map_eq_append_iff.1 h
  obtain ⟨q, rfl, hq⟩ := List.map_eq_singleton_iff.1 h2
  exact ⟨L, h1, by rw [e, ofL_inj hq]⟩
theorem cutIn_hit {c : UInt8} {s : ByteArray} {lb k f : Nat} {ys : List ByteArray} (h : CutIn c s lb k f ys) (hk : k < s.size) (hx : s[k] = c) : CutIn c s lb (k + 1) (k + 1) (ys ++ [s.extract f k]) := by
  obtain ⟨L, h1, h2⟩ := cutIn_parts h
  refine ⟨by have := h.1; have := h.2.1; omega, Nat.le_refl _, ?_⟩
  rw [extract_snoc s lb k (Nat.le_trans h.1 h.2.1) hk, segs_snoc, h2, more_at, if_pos hx, List.map_append, List.map_append, h1, List.map_singleton, ofL_extract, List.map_singleton, ← ofL_extract s (k + 1) (k + 1)]
  congr 2
  rw [List.drop_eq_nil_of_le (by rw [List.length_take]; omega)]
theorem cutIn_miss {c : UInt8} {s : ByteArray} {lb k f : Nat} {ys : List ByteArray} (h : CutIn c s lb k f ys) (hk : k < s.size) (hx : s[k] ≠ c) : CutIn c s lb (k + 1) f ys := by
  obtain ⟨L, h1, h2⟩ := cutIn_parts h
  refine ⟨h.1, Nat.le_succ_of_le h.2.1, ?_⟩
  rw [extract_snoc s lb k (Nat.le_trans h.1 h.2.1) hk, segs_snoc, h2, more_at, if_neg hx, List.map_append, h1, List.map_singleton, ← extract_snoc s f k h.2.1 hk, ofL_extract]
theorem cutIn_misses {c : UInt8} {s : ByteArray} {lb f : Nat} {ys : List ByteArray} : ∀ (m k : Nat), CutIn c s lb k f ys → k + m ≤ s.size → (∀ j (hj : j < s.size), k ≤ j → j < k + m → s[j] ≠ c) → CutIn c s lb (k + m) f ys
  | 0, _, h, _, _ => h
  | m + 1, k, h, hk, hx => by
    have := cutIn_misses m (k + 1) (cutIn_miss h (by omega) (hx k (by omega) (Nat.le_refl _) (by omega))) (by omega) (fun j hj h1 h2 => hx j hj (by omega) (by omega))
    rwa [Nat.add_assoc, Nat.add_comm 1 m] at this
theorem cutIn_cut {c : UInt8} {s : ByteArray} {lb k f : Nat} {ys : List ByteArray} (h : CutIn c s lb k f ys) : cutB c (s.extract lb k) = ys ++ [s.extract f k] := by
  rw [← h.2.2, cutB, extract_list]
theorem cutIn_len {c : UInt8} {s : ByteArray} {lb k f : Nat} {ys : List ByteArray} (h : CutIn c s lb k f ys) (hk : k ≤ s.size) : ys.length ≤ k := by
  obtain ⟨L, h1, h2⟩ := cutIn_parts h
  have h3 : ∀ l : List UInt8, (segs c l).length ≤ l.length + 1 := by
    intro l
    induction l with
    | nil => simp [segs]
    | cons x r ih =>
      rw [segs]
      split
      · simp; omega
      · split
        · simp
        · rename_i h t e
          rw [e] at ih; simp at ih ⊢; omega
  have := h3 ((s.data.toList.take k).drop lb)
  rw [h2] at this
  rw [← h1]
  simp at this ⊢
  omega

/-- What the program's walk tells of a text: the words of each line, and whether it is whole. -/
def tellsB (s : ByteArray) : List (List ByteArray × Bool) :=
  (cutB 10 s).dropLast.map (fun l => (cutB 32 l, true)) ++ (if (cutB 10 s).getLastD ⟨#[]⟩ = ⟨#[]⟩ then [] else [(cutB 32 ((cutB 10 s).getLastD ⟨#[]⟩), false)])
/-- Where the walk stands. -/
structure LwAt (s : ByteArray) (pos lb fr : Nat) (ls ws : List ByteArray) : Prop where
  inside : pos ≤ s.size
  lines : CutIn 10 s 0 pos lb ls
  words : CutIn 32 s lb pos fr ws
theorem lwAt_zero (s : ByteArray) : LwAt s 0 0 0 [] [] := ⟨Nat.zero_le _, cutIn_start _ _ _, cutIn_start _ _ _⟩
theorem lwAt_space {s : ByteArray} {pos lb fr : Nat} {ls ws : List ByteArray} (h : LwAt s pos lb fr ls ws) (hk : pos < s.size) (hx : s[pos] = 32) : LwAt s (pos + 1) lb (pos + 1) ls (ws ++ [s.extract fr pos]) :=
  ⟨hk, cutIn_miss h.lines hk (by rw [hx]; decide), cutIn_hit h.words hk hx⟩
theorem lwAt_line {s : ByteArray} {pos lb fr : Nat} {ls ws : List ByteArray} (h : LwAt s pos lb fr ls ws) (hk : pos < s.size) (hx : s[pos] = 10) : LwAt s (pos + 1) (pos + 1) (pos + 1) (ls ++ [s.extract lb pos]) [] ∧ cutB 32 (s.extract lb pos) = ws ++ [s.extract fr pos] :=
  ⟨⟨hk, cutIn_hit h.lines hk hx, cutIn_start _ _ _⟩, cutIn_cut h.words⟩
theorem lwAt_other {s : ByteArray} {pos lb fr : Nat} {ls ws : List ByteArray} (h : LwAt s pos lb fr ls ws) (hk : pos < s.size) (h1 : s[pos] ≠ 32) (h2 : s[pos] ≠ 10) : LwAt s (pos + (Utf8.decode s pos).2) lb fr ls ws ∧ ((Utf8.decode s pos).1 : Int) ≠ 32 ∧ ((Utf8.decode s pos).1 : Int) ≠ 10 ∧ 1 ≤ (Utf8.decode s pos).2 := by
  by_cases ha : (s[pos]).toNat < 128
  · rw [decode_low s pos hk ha]
    refine ⟨⟨hk, cutIn_miss h.lines hk h2, cutIn_miss h.words hk h1⟩, ?_, ?_, Nat.le_refl _⟩
    · intro e; exact h1 (UInt8.toNat_inj.1 (by show _ = 32; dsimp only at e; omega))
    · intro e; exact h2 (UInt8.toNat_inj.1 (by show _ = 10; dsimp only at e; omega))
  · have hd := decode_bytes s pos hk (by omega)
    have hh := decode_high s pos hk (by omega)
    refine ⟨⟨hd.1, cutIn_misses _ _ h.lines hd.1 (fun j hj g1 g2 e => ?_), cutIn_misses _ _ h.words hd.1 (fun j hj g1 g2 e => ?_)⟩, by omega, by omega, hh.2⟩
    · have := hd.2 j hj g1 g2; rw [e] at this; revert this; decide
    · have := hd.2 j hj g1 g2; rw [e] at this; revert this; decide
theorem lwAt_end {s : ByteArray} {lb fr : Nat} {ls ws : List ByteArray} (h : LwAt s s.size lb fr ls ws) : cutB 10 s = ls ++ [s.extract lb s.size] ∧ cutB 32 (s.extract lb s.size) = ws ++ [s.extract fr s.size] := by
  have h1 := cutIn_cut h.lines
  rw [show s.extract 0 s.size = s from by rw [← ofL_toL (s.extract 0 s.size), extract_list, List.drop_zero, List.take_of_length_le (by simp), ofL_toL]] at h1
  exact ⟨h1, cutIn_cut h.words⟩
theorem tells_end {s : ByteArray} {lb fr : Nat} {ls ws : List ByteArray} (h : LwAt s s.size lb fr ls ws) :
    tellsB s = ls.map (fun l => (cutB 32 l, true)) ++ if fr < s.size ∨ 0 < ws.length then [(ws ++ [s.extract fr s.size], false)] else [] := by
  obtain ⟨h1, h2⟩ := lwAt_end h
  unfold tellsB
  rw [h1, List.dropLast_concat, List.getLastD_concat, h2]
  congr 1
  have hw := h.words
  by_cases hc : fr < s.size ∨ 0 < ws.length
  · rw [if_pos hc, if_neg]
    intro e
    have h3 : cutB 32 (s.extract lb s.size) = [⟨#[]⟩] := by rw [e]; rfl
    rw [h2] at h3
    cases ws with
    | cons a r => simp at h3
    | nil =>
      rcases hc with hc | hc
      · have h4 : (s.extract fr s.size).size = 0 := by
          rw [List.nil_append] at h3
          rw [(List.cons.inj h3).1]; rfl
        rw [ByteArray.size_extract] at h4
        omega
      · simp at hc
  · rw [if_neg hc, if_pos]
    have hw0 : ws = [] := List.eq_nil_of_length_eq_zero (by omega)
    subst hw0
    have hf : fr = s.size := by have := hw.2.1; omega
    subst hf
    rw [List.nil_append] at h2
    have h5 : glue 32 (segs 32 (s.extract lb s.size).data.toList) = [] := by
      have h6 : segs 32 (s.extract lb s.size).data.toList = [[]] := by
        unfold cutB at h2
        obtain ⟨q, hq, hq2⟩ := List.map_eq_singleton_iff.1 h2
        rw [hq]
        congr 1
        have : ofL q = ofL [] := by
          rw [hq2, ← ofL_toL (s.extract s.size s.size), extract_list, List.drop_eq_nil_of_le (by rw [List.length_take]; omega)]
        exact ofL_inj this
      rw [h6]; rfl
    rw [glue_segs] at h5
    rw [← ofL_toL (s.extract lb s.size), h5]

theorem segs_append (c : UInt8) : ∀ (b a : List UInt8) (L : List (List UInt8)) (q : List UInt8), segs c a = L ++ [q] → ∃ M, M ≠ [] ∧ segs c (a ++ b) = L ++ M
  | [], a, L, q, h => ⟨[q], by simp, by rw [List.append_nil, h]⟩
  | x :: r, a, L, q, h => by
    have e : a ++ x :: r = (a ++ [x]) ++ r := by simp
    have h2 := segs_snoc c x a
    rw [h, more_at] at h2
    rw [e]
    split at h2
    · obtain ⟨M, _, hM⟩ := segs_append c r (a ++ [x]) (L ++ [q]) [] h2
      exact ⟨q :: M, by simp, by rw [hM]; simp⟩
    · exact segs_append c r (a ++ [x]) L _ h2
theorem tells_pre {s : ByteArray} {pos lb fr : Nat} {ls ws : List ByteArray} (h : LwAt s pos lb fr ls ws) : ls.map (fun l => (cutB 32 l, true)) <+: tellsB s := by
  obtain ⟨L, h1, h2⟩ := cutIn_parts h.lines
  rw [List.drop_zero] at h2
  obtain ⟨M, hM, h3⟩ := segs_append 10 (s.data.toList.drop pos) _ _ _ h2
  rw [List.take_append_drop] at h3
  have h4 : cutB 10 s = ls ++ M.map ofL := by rw [cutB, h3, List.map_append, h1]
  unfold tellsB
  rw [h4, List.dropLast_append_of_ne_nil (by simpa using hM), List.map_append, List.append_assoc]
  exact List.prefix_append _ _

end Go.Proofs.YtkidfflmbfnogaaDoor
