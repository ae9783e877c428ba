/- Paths read from texts: the plain part. -/
import Derived.Test.YtkidfflmbfnogaaDoorLwA
import Derived.Test.YtkidfflmbfnogaaDoorTxtP
import Derived.Test.YtkidfflmbfnogaaDoorPathB
namespace Go.Proofs.YtkidfflmbfnogaaDoor

abbrev wRoot : ByteArray := ⟨#[47]⟩
def pathV (p : List ByteArray) : Bool := allB p && decide ((p.length : Int) ≤ 4)
/-- A path out of a text, as the specification cuts it. -/
def pathS (b : ByteArray) : Option (List ByteArray) := if b.data.toList.head? = some 47 then (if b = wRoot then some [] else some (cutB 47 (b.extract 1 b.size))) else none
/-- A path out of a text, as the program reads it. -/
def pathR (b : ByteArray) : Option (List ByteArray) := match pathS b with
  | some p => if pathV p = true then some p else none
  | none => none
theorem pathR_S (b : ByteArray) (p : List ByteArray) : pathR b = some p ↔ pathS b = some p ∧ pathV p = true := by
  unfold pathR
  cases h : pathS b with
  | none => simp
  | some q =>
    by_cases hq : pathV q = true
    · simp only [hq, if_true, Option.some.injEq]
      exact ⟨fun e => ⟨e, e ▸ hq⟩, fun e => e.1⟩
    · simp only [hq, Option.some.injEq]
      constructor
      · intro e; cases e
      · rintro ⟨rfl, h2⟩; exact absurd h2 hq
theorem namesL_glue : ∀ (X : List (List UInt8)), X ≠ [] → namesL (X.map ofL) = 47 :: glue 47 X
  | [], h => absurd rfl h
  | [x], _ => by simp [namesL, glue]
  | x :: y :: r, _ => by
    have ih := namesL_glue (y :: r) (by simp)
    rw [glue_cons _ _ (by simp)]
    show namesL (ofL x :: (y :: r).map ofL) = _
    rw [show namesL (ofL x :: (y :: r).map ofL) = 47 :: (x ++ namesL ((y :: r).map ofL)) from by simp [namesL], ih]
theorem pathS_text {b : ByteArray} {p : List ByteArray} (h : pathS b = some p) : tx (pathL p) = b := by
  unfold pathS at h
  split at h
  · rename_i hh
    split at h
    · rename_i hr
      cases h
      rw [hr]; rfl
    · cases h
      unfold pathL
      rw [if_neg (by unfold cutB; simp [segs_ne])]
      unfold cutB
      rw [namesL_glue _ (segs_ne _ _), glue_segs, extract_list]
      have : (47 : UInt8) :: (b.data.toList.take b.size).drop 1 = b.data.toList := by
        rw [List.take_of_length_le (by simp)]
        cases hl : b.data.toList with
        | nil => rw [hl] at hh; simp at hh
        | cons x r => rw [hl] at hh; simp at hh; rw [hh]; rfl
      rw [this]
  · cases h

end Go.Proofs.YtkidfflmbfnogaaDoor
