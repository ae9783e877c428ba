/- Texts cut at a byte: segments, and their joining again; runes and the bytes that they are of. -/
import Derived.Laws.RangeAny
import Derived.Test.YtkidfflmbfnogaaDoorProg
namespace Go.Proofs.YtkidfflmbfnogaaDoor

def segs (c : UInt8) : List UInt8 → List (List UInt8)
  | [] => [[]]
  | x :: r => if x = c then [] :: segs c r else match segs c r with
    | [] => [[x]]
    | h :: t => (x :: h) :: t
theorem segs_ne (c : UInt8) : ∀ l, segs c l ≠ []
  | [] => by simp [segs]
  | x :: r => by
    rw [segs]
    split
    · simp
    · split <;> simp
/-- The last segment grown by one byte, or a new one begun. -/
def more (c x : UInt8) (L : List (List UInt8)) : List (List UInt8) := if x = c then L ++ [[]] else L.dropLast ++ [L.getLastD [] ++ [x]]
theorem segs_snoc (c x : UInt8) : ∀ l, segs c (l ++ [x]) = more c x (segs c l)
  | [] => by
    rw [List.nil_append, segs, more]
    by_cases h : x = c
    · simp [h, segs]
    · simp [h, segs]
  | y :: r => by
    have ih := segs_snoc c x r
    rw [List.cons_append, segs, segs, ih]
    have hn := segs_ne c r
    by_cases hy : y = c
    · rw [if_pos hy, if_pos hy, more, more]
      by_cases hx : x = c
      · simp [hx]
      · obtain ⟨h, t, e⟩ := List.exists_cons_of_ne_nil hn
        rw [if_neg hx, if_neg hx, e]
        simp [List.dropLast]
    · rw [if_neg hy, if_neg hy, more, more]
      obtain ⟨h, t, e⟩ := List.exists_cons_of_ne_nil hn
      rw [e]
      by_cases hx : x = c
      · simp [hx]
      · rw [if_neg hx, if_neg hx]
        cases t with
        | nil => simp
        | cons a t => simp [List.dropLast]
theorem more_at {c x : UInt8} (L : List (List UInt8)) (q : List UInt8) : more c x (L ++ [q]) = if x = c then L ++ [q] ++ [[]] else L ++ [q ++ [x]] := by
  rw [more]
  split
  · rfl
  · rw [List.dropLast_concat, List.getLastD_concat]
theorem segs_free {c : UInt8} : ∀ (l : List UInt8), ∀ x ∈ segs c l, c ∉ x
  | [] => by simp [segs]
  | y :: r => by
    have ih := segs_free (c := c) r
    rw [segs]
    split
    · intro x hx
      rcases List.mem_cons.1 hx with h | h
      · subst h; simp
      · exact ih x h
    · rename_i hy
      split
      · intro x hx
        simp at hx
        subst hx
        simp [Ne.symm hy]
      · rename_i h t e
        rw [e] at ih
        intro x hx
        rcases List.mem_cons.1 hx with h' | h'
        · subst h'
          simp only [List.mem_cons, not_or]
          exact ⟨fun h => hy h.symm, ih h List.mem_cons_self⟩
        · exact ih x (List.mem_cons_of_mem _ h')
/-- Segments joined again. -/
def glue (c : UInt8) : List (List UInt8) → List UInt8
  | [] => []
  | [h] => h
  | h :: t => h ++ c :: glue c t
theorem glue_cons (c : UInt8) (h : List UInt8) {t : List (List UInt8)} (ht : t ≠ []) : glue c (h :: t) = h ++ c :: glue c t := by
  cases t with
  | nil => exact absurd rfl ht
  | cons a t => rfl
theorem glue_segs (c : UInt8) : ∀ l, glue c (segs c l) = l
  | [] => rfl
  | x :: r => by
    have ih := glue_segs c r
    have hn := segs_ne c r
    rw [segs]
    split
    · rename_i h
      rw [glue_cons _ _ hn, ih, h]; rfl
    · obtain ⟨h, t, e⟩ := List.exists_cons_of_ne_nil hn
      rw [e] at ih ⊢
      cases t with
      | nil => simpa [glue] using ih
      | cons a t =>
        rw [glue_cons _ _ (by simp)] at ih
        show glue c ((x :: h) :: a :: t) = _
        rw [glue_cons _ _ (by simp), List.cons_append, ih]
theorem glue_snoc (c : UInt8) (q : List UInt8) : ∀ (L : List (List UInt8)), glue c (L ++ [q]) = (L.map (· ++ [c])).flatten ++ q
  | [] => by simp [glue]
  | h :: t => by
    rw [List.cons_append, glue_cons _ _ (by simp), glue_snoc c q t]
    simp
theorem segs_one {c : UInt8} : ∀ {l : List UInt8}, c ∉ l → segs c l = [l]
  | [], _ => rfl
  | x :: r, h => by
    have h1 : x ≠ c := fun e => h (by rw [e]; exact List.mem_cons_self)
    rw [segs, if_neg h1, segs_one (fun e => h (List.mem_cons_of_mem _ e))]
theorem segs_head {c : UInt8} : ∀ {h : List UInt8} (r : List UInt8), c ∉ h → segs c (h ++ c :: r) = h :: segs c r
  | [], r, _ => by rw [List.nil_append, segs, if_pos rfl]
  | x :: h, r, hh => by
    have h1 : x ≠ c := fun e => hh (by rw [e]; exact List.mem_cons_self)
    rw [List.cons_append, segs, if_neg h1, segs_head r (fun e => hh (List.mem_cons_of_mem _ e))]
theorem segs_glue {c : UInt8} : ∀ {L : List (List UInt8)}, L ≠ [] → (∀ x ∈ L, c ∉ x) → segs c (glue c L) = L
  | [h], _, hf => segs_one (hf h (by simp))
  | h :: a :: t, _, hf => by
    rw [glue_cons _ _ (by simp), segs_head _ (hf h (by simp)), segs_glue (by simp) (fun x hx => hf x (List.mem_cons_of_mem _ hx))]

abbrev ofL (l : List UInt8) : ByteArray := ⟨l.toArray⟩
theorem ofL_toL (s : ByteArray) : ofL s.data.toList = s := by cases s; simp [ofL]
theorem ofL_inj {a b : List UInt8} (h : ofL a = ofL b) : a = b := by
  have := congrArg (fun s : ByteArray => s.data.toList) h
  simpa using this
def cutB (c : UInt8) (s : ByteArray) : List ByteArray := (segs c s.data.toList).map ofL
theorem extract_list (s : ByteArray) (a b : Nat) : (s.extract a b).data.toList = (s.data.toList.take b).drop a := by
  simp [List.take_drop]
  by_cases h : a ≤ b
  · congr 2; omega
  · rw [List.drop_eq_nil_of_le (by simp; omega), List.drop_eq_nil_of_le (by simp; omega)]
theorem ofL_extract (s : ByteArray) (a b : Nat) : ofL ((s.data.toList.take b).drop a) = s.extract a b := by
  rw [← extract_list, ofL_toL]

/-- Where the cutting stands behind k bytes: what is done, and where the segment at hand begins. -/
def CutAt (c : UInt8) (s : ByteArray) (k f : Nat) (ys : List ByteArray) : Prop := f ≤ k ∧ (segs c (s.data.toList.take k)).map ofL = ys ++ [s.extract f k]
theorem cutAt_zero (c : UInt8) (s : ByteArray) : CutAt c s 0 0 [] := by
  refine ⟨Nat.le_refl _, ?_⟩
  rw [List.take_zero, segs, List.map_singleton, ← ofL_extract]
  simp
theorem take_succ_byte (s : ByteArray) (k : Nat) (h : k < s.size) : s.data.toList.take (k + 1) = s.data.toList.take k ++ [s[k]] := by
  rw [List.take_succ_eq_append_getElem (by simpa using h)]; rfl
theorem extract_snoc (s : ByteArray) (f k : Nat) (hf : f ≤ k) (h : k < s.size) : (s.data.toList.take (k + 1)).drop f = (s.data.toList.take k).drop f ++ [s[k]] := by
  have hk : s.data.toList.length = s.size := by simp
  rw [take_succ_byte s k h, List.drop_append_of_le_length (by rw [List.length_take]; omega)]
theorem cutAt_parts {c : UInt8} {s : ByteArray} {k f : Nat} {ys : List ByteArray} (h : CutAt c s k f ys) : ∃ L, L.map ofL = ys ∧ segs c (s.data.toList.take k) = L ++ [(s.data.toList.take k).drop f] := by
  obtain ⟨_, h⟩ := h
  rw [← ofL_extract] at h
  obtain ⟨L, M, e, h1, h2⟩ := List.map_eq_append_iff.1 h
  obtain ⟨q, rfl, hq⟩ := List.map_eq_singleton_iff.1 h2
  exact ⟨L, h1, by rw [e, ofL_inj hq]⟩
theorem cutAt_hit {c : UInt8} {s : ByteArray} {k f : Nat} {ys : List ByteArray} (h : CutAt c s k f ys) (hk : k < s.size) (hx : s[k] = c) : CutAt c s (k + 1) (k + 1) (ys ++ [s.extract f k]) := by
  obtain ⟨L, h1, h2⟩ := cutAt_parts h
  refine ⟨Nat.le_refl _, ?_⟩
  rw [take_succ_byte s k hk, segs_snoc, h2, more_at, if_pos hx, List.map_append, List.map_append, h1, List.map_singleton, ofL_extract, List.map_singleton, ← ofL_extract s (k + 1) (k + 1)]
  congr 2
  rw [List.drop_eq_nil_of_le (by rw [List.length_take]; omega)]
theorem cutAt_miss {c : UInt8} {s : ByteArray} {k f : Nat} {ys : List ByteArray} (h : CutAt c s k f ys) (hk : k < s.size) (hx : s[k] ≠ c) : CutAt c s (k + 1) f ys := by
  obtain ⟨L, h1, h2⟩ := cutAt_parts h
  refine ⟨Nat.le_succ_of_le h.1, ?_⟩
  rw [take_succ_byte s k hk, segs_snoc, h2, more_at, if_neg hx, List.map_append, h1, List.map_singleton, ← extract_snoc s f k h.1 hk, ofL_extract]
theorem cutAt_all {c : UInt8} {s : ByteArray} {f : Nat} {ys : List ByteArray} (h : CutAt c s s.size f ys) : cutB c s = ys ++ [s.extract f s.size] := by
  rw [← h.2, cutB, List.take_of_length_le (by simp)]
theorem cutAt_len {c : UInt8} {s : ByteArray} {k f : Nat} {ys : List ByteArray} (h : CutAt c s k f ys) (hk : k ≤ s.size) : ys.length ≤ k := by
  obtain ⟨L, h1, h2⟩ := cutAt_parts h
  have h3 : ∀ l : List UInt8, (segs c l).length ≤ l.length + 1 := by
    intro l
    induction l with
    | nil => simp [segs]
    | cons x r ih =>
      rw [segs]
      split
      · simp; omega
      · split
        · simp
        · rename_i h t e
          rw [e] at ih; simp at ih ⊢; omega
  have := h3 (s.data.toList.take k)
  rw [h2] at this
  rw [← h1]
  simp at this ⊢
  omega
theorem cutAt_sizes {c : UInt8} {s : ByteArray} {k f : Nat} {ys : List ByteArray} (h : CutAt c s k f ys) : ∀ (i : Nat) (h : i < ys.length), ys[i].size ≤ s.size := by
  obtain ⟨L, h1, h2⟩ := cutAt_parts h
  have h3 : ∀ l : List UInt8, ∀ x ∈ segs c l, x.length ≤ l.length := by
    intro l
    induction l with
    | nil => simp [segs]
    | cons x r ih =>
      rw [segs]
      split
      · intro y hy
        rcases List.mem_cons.1 hy with h | h
        · subst h; simp
        · have := ih y h; simp; omega
      · split
        · intro y hy; simp at hy; subst hy; simp
        · rename_i h t e
          rw [e] at ih
          intro y hy
          rcases List.mem_cons.1 hy with h' | h'
          · subst h'; have := ih h List.mem_cons_self; simp; omega
          · have := ih y (List.mem_cons_of_mem _ h'); simp; omega
  intro i hi
  subst h1
  rw [List.getElem_map]
  have hm : L[i]'(by simpa using hi) ∈ segs c (s.data.toList.take k) := by rw [h2]; exact List.mem_append_left _ (List.getElem_mem _)
  have := h3 _ _ hm
  rw [List.length_take] at this
  show (L[i]'(by simpa using hi)).toArray.size ≤ s.size
  simp at this ⊢
  omega

theorem extract_le (s : ByteArray) (a b B : Nat) (h : s.size ≤ B) : (s.extract a b).size ≤ B := by rw [ByteArray.size_extract]; omega

/-- The bytes of a rune that is none of ASCII are none of ASCII. -/
theorem decode_bytes (s : ByteArray) (pos : Nat) (h : pos < s.size) (ha : 128 ≤ (s[pos]'h).toNat) : pos + (Utf8.decode s pos).2 ≤ s.size ∧ ∀ j (hj : j < s.size), pos ≤ j → j < pos + (Utf8.decode s pos).2 → 128 ≤ (s[j]'hj).toNat := by
  have hn : ¬ (s[pos]'h).toNat < 128 := by omega
  have hg : ∀ k (hk : pos + k < s.size), s.get! (pos + k) = s[pos + k]'hk := fun k hk => by
    simp [ByteArray.get!, getElem!_pos, hk]; rfl
  have one : pos + 1 ≤ s.size ∧ ∀ j (hj : j < s.size), pos ≤ j → j < pos + 1 → 128 ≤ (s[j]'hj).toNat := ⟨by omega, fun j hj h1 h2 => by
    have e : j = pos := by omega
    subst e; exact ha⟩
  have cont : ∀ k (hk : pos + k < s.size), (s.get! (pos + k)).toNat / 64 = 2 → 128 ≤ (s[pos + k]'hk).toNat := fun k hk h => by rw [hg k hk] at h; omega
  have at0 : (s.get! (pos + 0)).toNat = (s[pos]'h).toNat := by rw [Go.get_at s pos h]
  have hat : ∀ m, (∀ k, k < m → 1 ≤ k → ∃ hk : pos + k < s.size, 128 ≤ (s[pos + k]'hk).toNat) → 1 ≤ m → pos + m ≤ s.size ∧ ∀ j (hj : j < s.size), pos ≤ j → j < pos + m → 128 ≤ (s[j]'hj).toNat := by
    intro m hm h1
    refine ⟨?_, fun j hj g1 g2 => ?_⟩
    · by_cases e : m = 1
      · omega
      · obtain ⟨hk, _⟩ := hm (m - 1) (by omega) (by omega); omega
    · by_cases e : j = pos
      · subst e; exact ha
      · obtain ⟨hk, hv⟩ := hm (j - pos) (by omega) (by omega)
        have e2 : pos + (j - pos) = j := by omega
        simp only [e2] at hv; exact hv
  unfold Utf8.decode
  simp only [at0, hn, if_false]
  split
  · rename_i hc
    simp only [Bool.and_eq_true, beq_iff_eq, decide_eq_true_eq] at hc
    split
    · refine hat 2 (fun k g1 g2 => ?_) (by omega)
      have : k = 1 := by omega
      subst this
      exact ⟨hc.2.1, cont 1 hc.2.1 hc.2.2⟩
    · exact one
  · split
    · rename_i hc
      simp only [Bool.and_eq_true, beq_iff_eq, decide_eq_true_eq] at hc
      split
      · refine hat 3 (fun k g1 g2 => ?_) (by omega)
        rcases (by omega : k = 1 ∨ k = 2) with h | h <;> subst h
        · exact ⟨hc.1.2.1, cont 1 hc.1.2.1 hc.1.2.2⟩
        · exact ⟨hc.2.1, cont 2 hc.2.1 hc.2.2⟩
      · exact one
    · split
      · rename_i hc
        simp only [Bool.and_eq_true, beq_iff_eq, decide_eq_true_eq] at hc
        split
        · refine hat 4 (fun k g1 g2 => ?_) (by omega)
          rcases (by omega : k = 1 ∨ k = 2 ∨ k = 3) with h | h | h <;> subst h
          · exact ⟨hc.1.1.2.1, cont 1 hc.1.1.2.1 hc.1.1.2.2⟩
          · exact ⟨hc.1.2.1, cont 2 hc.1.2.1 hc.1.2.2⟩
          · exact ⟨hc.2.1, cont 3 hc.2.1 hc.2.2⟩
        · exact one
      · exact one
theorem decode_low (s : ByteArray) (pos : Nat) (h : pos < s.size) (ha : (s[pos]'h).toNat < 128) : Utf8.decode s pos = ((s[pos]'h).toNat, 1) := by
  have at0 : (s.get! (pos + 0)).toNat = (s[pos]'h).toNat := by rw [Go.get_at s pos h]
  unfold Utf8.decode
  simp only [at0, ha, if_true]
theorem cutAt_misses {c : UInt8} {s : ByteArray} {f : Nat} {ys : List ByteArray} : ∀ (m k : Nat), CutAt c s k f ys → k + m ≤ s.size → (∀ j (hj : j < s.size), k ≤ j → j < k + m → s[j] ≠ c) → CutAt c s (k + m) f ys
  | 0, _, h, _, _ => h
  | m + 1, k, h, hk, hx => by
    have := cutAt_misses m (k + 1) (cutAt_miss h (by omega) (hx k (by omega) (Nat.le_refl _) (by omega))) (by omega) (fun j hj h1 h2 => hx j hj (by omega) (by omega))
    rwa [Nat.add_assoc, Nat.add_comm 1 m] at this

end Go.Proofs.YtkidfflmbfnogaaDoor
