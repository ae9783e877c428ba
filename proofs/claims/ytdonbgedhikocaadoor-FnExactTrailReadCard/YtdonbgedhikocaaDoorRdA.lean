/- Trails read from texts: what the program reads and what the specification reads are the same: the plain part. -/
import Derived.Test.YtdonbgedhikocaaDoorLwA
import Derived.Test.YtdonbgedhikocaaDoorShS
namespace Go.Proofs.YtdonbgedhikocaaDoor

abbrev wAt : ByteArray := ⟨#[97, 116]⟩
abbrev wSub : ByteArray := ⟨#[115, 117, 98]⟩
abbrev wRoot : ByteArray := ⟨#[47]⟩
def pathV (p : List ByteArray) : Bool := allB p && decide ((p.length : Int) ≤ 4)
/-- A path out of a text, as the specification cuts it. -/
def pathS (b : ByteArray) : Option (List ByteArray) := if b.data.toList.head? = some 47 then (if b = wRoot then some [] else some (cutB 47 (b.extract 1 b.size))) else none
/-- A path out of a text, as the program reads it. -/
def pathR (b : ByteArray) : Option (List ByteArray) := match pathS b with
  | some p => if pathV p = true then some p else none
  | none => none
def markW (f : ByteArray → Option (List ByteArray)) : List ByteArray → Option Mk
  | [a, b] => if a = wSub then (f b).map (fun p => ⟨p, true⟩) else if a = wAt then (f b).map (fun p => ⟨p, false⟩) else none
  | _ => none
def allM (f : List ByteArray → Option Mk) : List (List ByteArray) → Option (List Mk)
  | [] => some []
  | x :: r => match f x, allM f r with
    | some m, some l => some (m :: l)
    | _, _ => none
theorem allM_snoc (f : List ByteArray → Option Mk) : ∀ (l : List (List ByteArray)) (x : List ByteArray), allM f (l ++ [x]) = match allM f l, f x with
    | some r, some m => some (r ++ [m])
    | _, _ => none
  | [], x => by
    rw [List.nil_append, allM, allM, allM]
    cases f x <;> rfl
  | y :: r, x => by
    rw [List.cons_append, allM, allM_snoc f r x, allM]
    cases f y <;> cases allM f r <;> cases f x <;> rfl
theorem allM_none (f : List ByteArray → Option Mk) : ∀ (l r : List (List ByteArray)), allM f l = none → allM f (l ++ r) = none
  | [], _, h => by simp [allM] at h
  | y :: l, r, h => by
    rw [allM] at h
    rw [List.cons_append, allM]
    cases hy : f y with
    | none => rfl
    | some m =>
      rw [hy] at h
      cases hl : allM f l with
      | none => rw [allM_none f l r hl]
      | some q => rw [hl] at h; cases h
theorem allM_len (f : List ByteArray → Option Mk) : ∀ (l : List (List ByteArray)) (q : List Mk), allM f l = some q → q.length = l.length
  | [], q, h => by rw [allM] at h; cases h; rfl
  | y :: l, q, h => by
    rw [allM] at h
    cases hy : f y with
    | none => rw [hy] at h; cases h
    | some m =>
      rw [hy] at h
      cases hl : allM f l with
      | none => rw [hl] at h; cases h
      | some r =>
        rw [hl] at h
        cases h
        simp [allM_len f l r hl]
/-- The program's reading: line by line, no more than six. -/
def takeM : List (List ByteArray × Bool) → List Mk → Option (List Mk)
  | [], acc => some acc
  | x :: r, acc => match markW pathR x.1 with
    | none => none
    | some m => if x.2 = true ∧ acc.length ≠ 6 then takeM r (acc ++ [m]) else none
theorem takeM_some : ∀ (t : List (List ByteArray × Bool)) (acc l : List Mk), acc.length ≤ 6 → (takeM t acc = some l ↔ (∀ x ∈ t, x.2 = true) ∧ acc.length + t.length ≤ 6 ∧ ∃ q, allM (markW pathR) (t.map Prod.fst) = some q ∧ l = acc ++ q)
  | [], acc, l, h => by
    rw [takeM]
    constructor
    · intro e; cases e; exact ⟨by simp, by simpa using h, [], rfl, by simp⟩
    · rintro ⟨_, _, q, hq, rfl⟩
      cases hq; simp
  | x :: r, acc, l, h => by
    rw [takeM, List.map_cons, allM]
    cases hm : markW pathR x.1 with
    | none => simp
    | some m =>
      simp only
      by_cases hc : x.2 = true ∧ acc.length ≠ 6
      · rw [if_pos hc, takeM_some r (acc ++ [m]) l (by simp; omega)]
        constructor
        · rintro ⟨h1, h2, q, hq, rfl⟩
          refine ⟨?_, by simp at h2 ⊢; omega, m :: q, by rw [hq], by simp⟩
          intro y hy
          rcases List.mem_cons.1 hy with e | e
          · rw [e]; exact hc.1
          · exact h1 y e
        · rintro ⟨h1, h2, q, hq, rfl⟩
          cases ha : allM (markW pathR) (r.map Prod.fst) with
          | none => rw [ha] at hq; cases hq
          | some q' =>
            rw [ha] at hq
            cases hq
            exact ⟨fun y hy => h1 y (List.mem_cons_of_mem _ hy), by simp at h2 ⊢; omega, q', rfl, by simp⟩
      · rw [if_neg hc]
        constructor
        · intro e; cases e
        · rintro ⟨h1, h2, _⟩
          exact absurd ⟨h1 x List.mem_cons_self, by simp at h2; omega⟩ hc
def implV (s : ByteArray) : Option (List Mk) := match takeM (tellsB s) [] with
  | some l => if trailB l = true then some l else none
  | none => none
def linesB (s : ByteArray) : List (List ByteArray) := ((cutB 10 s).dropLast.take 7).map (cutB 32)
def specV (s : ByteArray) : Option (List Mk) := match allM (markW pathS) (linesB s) with
  | some l => if trailB l = true ∧ showT l = s then some l else none
  | none => none

theorem markW_map (f g : ByteArray → Option (List ByteArray)) (ws : List ByteArray) (m : Mk) (h : ∀ b p, f b = some p ↔ g b = some p ∧ pathV p = true) : markW f ws = some m ↔ markW g ws = some m ∧ pathV m.path = true := by
  match ws with
  | [a, b] =>
    simp only [markW]
    split
    · simp only [Option.map_eq_some_iff]
      constructor
      · rintro ⟨p, h1, rfl⟩; exact ⟨⟨p, ((h b p).1 h1).1, rfl⟩, ((h b p).1 h1).2⟩
      · rintro ⟨⟨p, h1, rfl⟩, h2⟩; exact ⟨p, (h b p).2 ⟨h1, h2⟩, rfl⟩
    · split
      · simp only [Option.map_eq_some_iff]
        constructor
        · rintro ⟨p, h1, rfl⟩; exact ⟨⟨p, ((h b p).1 h1).1, rfl⟩, ((h b p).1 h1).2⟩
        · rintro ⟨⟨p, h1, rfl⟩, h2⟩; exact ⟨p, (h b p).2 ⟨h1, h2⟩, rfl⟩
      · simp
  | [] => simp [markW]
  | [a] => simp [markW]
  | a :: b :: c :: r => simp [markW]
theorem pathR_S (b : ByteArray) (p : List ByteArray) : pathR b = some p ↔ pathS b = some p ∧ pathV p = true := by
  unfold pathR
  cases h : pathS b with
  | none => simp
  | some q =>
    by_cases hq : pathV q = true
    · simp only [hq, if_true, Option.some.injEq]
      exact ⟨fun e => ⟨e, e ▸ hq⟩, fun e => e.1⟩
    · simp only [hq, Option.some.injEq]
      constructor
      · intro e; cases e
      · rintro ⟨rfl, h2⟩; exact absurd h2 hq
theorem allM_R_S : ∀ (l : List (List ByteArray)) (q : List Mk), allM (markW pathR) l = some q ↔ allM (markW pathS) l = some q ∧ ∀ m ∈ q, pathV m.path = true
  | [], q => by
    rw [allM, allM]
    constructor
    · intro e; cases e; exact ⟨rfl, by simp⟩
    · exact fun e => e.1
  | x :: r, q => by
    have ih := allM_R_S r
    have hx := fun m => markW_map pathR pathS x m pathR_S
    rw [allM, allM]
    constructor
    · intro e
      cases h1 : markW pathR x with
      | none => rw [h1] at e; cases e
      | some m =>
        cases h2 : allM (markW pathR) r with
        | none => rw [h1, h2] at e; cases e
        | some q' =>
          rw [h1, h2] at e
          cases e
          obtain ⟨a1, a2⟩ := (hx m).1 h1
          obtain ⟨b1, b2⟩ := (ih q').1 h2
          rw [a1, b1]
          refine ⟨rfl, fun y hy => ?_⟩
          rcases List.mem_cons.1 hy with e | e
          · rw [e]; exact a2
          · exact b2 y e
    · rintro ⟨e, hq⟩
      cases h1 : markW pathS x with
      | none => rw [h1] at e; cases e
      | some m =>
        cases h2 : allM (markW pathS) r with
        | none => rw [h1, h2] at e; cases e
        | some q' =>
          rw [h1, h2] at e
          cases e
          rw [(hx m).2 ⟨h1, hq m (by simp)⟩, (ih q').2 ⟨h2, fun y hy => hq y (by simp [hy])⟩]
theorem namesL_glue : ∀ (X : List (List UInt8)), X ≠ [] → namesL (X.map ofL) = 47 :: glue 47 X
  | [], h => absurd rfl h
  | [x], _ => by simp [namesL, glue]
  | x :: y :: r, _ => by
    have ih := namesL_glue (y :: r) (by simp)
    rw [glue_cons _ _ (by simp)]
    show namesL (ofL x :: (y :: r).map ofL) = _
    rw [show namesL (ofL x :: (y :: r).map ofL) = 47 :: (x ++ namesL ((y :: r).map ofL)) from by simp [namesL], ih]
theorem pathS_text {b : ByteArray} {p : List ByteArray} (h : pathS b = some p) : tx (pathL p) = b := by
  unfold pathS at h
  split at h
  · rename_i hh
    split at h
    · rename_i hr
      cases h
      rw [hr]; rfl
    · cases h
      unfold pathL
      rw [if_neg (by unfold cutB; simp [segs_ne])]
      unfold cutB
      rw [namesL_glue _ (segs_ne _ _), glue_segs, extract_list]
      have : (47 : UInt8) :: (b.data.toList.take b.size).drop 1 = b.data.toList := by
        rw [List.take_of_length_le (by simp)]
        cases hl : b.data.toList with
        | nil => rw [hl] at hh; simp at hh
        | cons x r => rw [hl] at hh; simp at hh; rw [hh]; rfl
      rw [this]
  · cases h
theorem pair_glue {line a b : ByteArray} (h : cutB 32 line = [a, b]) : line = a ++ ⟨#[32]⟩ ++ b := by
  have h1 := glue_segs 32 line.data.toList
  unfold cutB at h
  obtain ⟨x, t, hx, h2, h3⟩ := List.map_eq_cons_iff.1 h
  obtain ⟨y, h4, h5⟩ := List.map_eq_singleton_iff.1 h3
  rw [hx, h4] at h1
  rw [← ofL_toL line, ← h1, ← h2, ← h5]
  show ofL (x ++ 32 :: y) = tx x ++ tx [32] ++ tx y
  rw [tx_append, tx_append]
  simp [tx, ofL]
theorem markS_line {line : ByteArray} {m : Mk} (h : markW pathS (cutB 32 line) = some m) : lineM m = line := by
  match hc : cutB 32 line with
  | [a, b] =>
    rw [hc] at h
    rw [pair_glue hc]
    simp only [markW] at h
    split at h
    · rename_i ha
      obtain ⟨p, hp, rfl⟩ := Option.map_eq_some_iff.1 h
      rw [ha, lineM, pathS_text hp]
      rfl
    · split at h
      · rename_i ha
        obtain ⟨p, hp, rfl⟩ := Option.map_eq_some_iff.1 h
        rw [ha, lineM, pathS_text hp]
        rfl
      · cases h
  | [] => rw [hc] at h; simp [markW] at h
  | [a] => rw [hc] at h; simp [markW] at h
  | a :: b :: c :: r => rw [hc] at h; simp [markW] at h
theorem showT_from : ∀ (ls : List ByteArray) (q : List Mk) (s0 : ByteArray), allM (markW pathS) (ls.map (cutB 32)) = some q → (q.foldl (fun s m => s ++ textM m) s0).data.toList = s0.data.toList ++ (ls.map (fun l => l.data.toList ++ [10])).flatten
  | [], q, s0, h => by
    rw [List.map_nil, allM] at h
    cases h
    simp
  | l :: r, q, s0, h => by
    rw [List.map_cons, allM] at h
    cases h1 : markW pathS (cutB 32 l) with
    | none => rw [h1] at h; cases h
    | some m =>
      cases h2 : allM (markW pathS) (r.map (cutB 32)) with
      | none => rw [h1, h2] at h; cases h
      | some q' =>
        rw [h1, h2] at h
        cases h
        rw [List.foldl_cons, showT_from r q' _ h2, textM, markS_line h1]
        simp
theorem lines_text (s : ByteArray) : s.data.toList = ((cutB 10 s).dropLast.map (fun l => l.data.toList ++ [10])).flatten ++ ((cutB 10 s).getLastD ⟨#[]⟩).data.toList := by
  have hn := segs_ne 10 s.data.toList
  have h1 := glue_segs 10 s.data.toList
  have h2 : segs 10 s.data.toList = (segs 10 s.data.toList).dropLast ++ [(segs 10 s.data.toList).getLast hn] := (List.dropLast_concat_getLast hn).symm
  rw [h2, glue_snoc] at h1
  unfold cutB
  rw [← List.map_dropLast, List.map_map, List.getLastD_eq_getLast?, List.getLast?_map, List.getLast?_eq_some_getLast hn]
  simp only [Option.map_some, Option.getD_some]
  exact h1.symm

theorem impl_spec (s : ByteArray) : implV s = specV s := by
  have key : ∀ l, implV s = some l ↔ specV s = some l := by
    intro l
    have hlt := lines_text s
    have impl_iff : implV s = some l ↔ takeM (tellsB s) [] = some l ∧ trailB l = true := by
      unfold implV
      cases h : takeM (tellsB s) [] with
      | none => simp
      | some q =>
        by_cases hq : trailB q = true
        · simp only [hq, if_true, Option.some.injEq]; exact ⟨fun e => ⟨e, e ▸ hq⟩, fun e => e.1⟩
        · simp only [hq, Option.some.injEq]
          constructor
          · intro e; cases e
          · rintro ⟨rfl, h2⟩; exact absurd h2 hq
    have spec_iff : specV s = some l ↔ allM (markW pathS) (linesB s) = some l ∧ trailB l = true ∧ showT l = s := by
      unfold specV
      cases h : allM (markW pathS) (linesB s) with
      | none => simp
      | some q =>
        by_cases hq : trailB q = true ∧ showT q = s
        · simp only [hq, and_self, if_true, Option.some.injEq]; exact ⟨fun e => ⟨e, e ▸ hq⟩, fun e => e.1⟩
        · simp only [hq, if_false, Option.some.injEq]
          constructor
          · intro e; cases e
          · rintro ⟨rfl, h2⟩; exact absurd h2 hq
    rw [impl_iff, spec_iff, takeM_some _ _ _ (by simp)]
    constructor
    · rintro ⟨⟨h1, h2, q, h3, h4⟩, h5⟩
      rw [List.nil_append] at h4
      subst h4
      have hlast : (cutB 10 s).getLastD ⟨#[]⟩ = ⟨#[]⟩ := by
        apply Classical.byContradiction
        intro hne
        have : (cutB 32 ((cutB 10 s).getLastD ⟨#[]⟩), false) ∈ tellsB s := by
          unfold tellsB; rw [if_neg hne]; simp
        exact absurd (h1 _ this) (by simp)
      have ht : tellsB s = (cutB 10 s).dropLast.map (fun l => (cutB 32 l, true)) := by
        unfold tellsB; rw [if_pos hlast, List.append_nil]
      rw [ht] at h2 h3
      have h7 : linesB s = (cutB 10 s).dropLast.map (cutB 32) := by
        unfold linesB; rw [List.take_of_length_le (by simp at h2 ⊢; omega)]
      rw [List.map_map, show (Prod.fst ∘ fun l => (cutB 32 l, true)) = cutB 32 from rfl] at h3
      have h8 := ((allM_R_S _ _).1 h3).1
      refine ⟨by rw [h7]; exact h8, h5, ?_⟩
      have h9 := showT_from _ _ ⟨#[]⟩ h8
      rw [hlast] at hlt
      rw [← ofL_toL (showT l), ← ofL_toL s, hlt]
      congr 1
      show (l.foldl (fun s m => s ++ textM m) ⟨#[]⟩).data.toList = _
      rw [h9]
      simp
    · rintro ⟨h1, h2, h3⟩
      have hlen := allM_len _ _ _ h1
      have h6 := trailB_len h2
      have hshort : (cutB 10 s).dropLast.length ≤ 6 := by
        unfold linesB at hlen
        rw [List.length_map, List.length_take] at hlen
        omega
      have h7 : linesB s = (cutB 10 s).dropLast.map (cutB 32) := by
        unfold linesB; rw [List.take_of_length_le (by omega)]
      rw [h7] at h1
      have h9 := showT_from _ _ ⟨#[]⟩ h1
      have hlast : (cutB 10 s).getLastD ⟨#[]⟩ = ⟨#[]⟩ := by
        have e1 : (showT l).data.toList = s.data.toList := by rw [h3]
        have e2 : (showT l).data.toList = ((cutB 10 s).dropLast.map (fun l => l.data.toList ++ [10])).flatten := by
          show (l.foldl (fun s m => s ++ textM m) ⟨#[]⟩).data.toList = _
          rw [h9]; simp
        rw [e2] at e1
        rw [hlt] at e1
        have e3 := List.self_eq_append_right.1 e1
        rw [← ofL_toL ((cutB 10 s).getLastD ⟨#[]⟩), e3]
      have ht : tellsB s = (cutB 10 s).dropLast.map (fun l => (cutB 32 l, true)) := by
        unfold tellsB; rw [if_pos hlast, List.append_nil]
      refine ⟨⟨?_, ?_, l, ?_, by simp⟩, h2⟩
      · rw [ht]; intro x hx
        obtain ⟨y, _, rfl⟩ := List.mem_map.1 hx
        rfl
      · rw [ht]; simp at hshort ⊢; omega
      · rw [ht, List.map_map, show (Prod.fst ∘ fun l => (cutB 32 l, true)) = cutB 32 from rfl]
        refine (allM_R_S _ _).2 ⟨h1, fun m hm => ?_⟩
        obtain ⟨i, hi, rfl⟩ := List.getElem_of_mem hm
        have hq := trailB_mark h2 i hi
        unfold markQ at hq
        rw [Bool.and_eq_true] at hq
        exact hq.1
  cases h : specV s with
  | some l => exact (key l).2 h
  | none =>
    cases h2 : implV s with
    | none => rfl
    | some l => rw [(key l).1 h2] at h; cases h

end Go.Proofs.YtdonbgedhikocaaDoor
