/- readEntry: of the words of any line. -/
import Derived.Test.YtkidfflmbfnogaaDoorRdH
namespace Go.Proofs.YtkidfflmbfnogaaDoor
open Go.RowKit

theorem len_0 (t : List ByteArray) (h : t.length + 1 ≠ 2) : readE (fw0 :: t) = none := by
  match t with
  | [] => rfl
  | [b] => simp at h
  | [b, c] => simp only [readE]; repeat rw [if_neg (by decide)]
  | [b, c, f] => simp only [readE]; repeat rw [if_neg (by decide)]
  | _ :: _ :: _ :: _ :: _ => rfl
theorem len_1 (t : List ByteArray) (h : t.length + 1 ≠ 3) : readE (fw1 :: t) = none := by
  match t with
  | [] => rfl
  | [b] => simp only [readE]; repeat rw [if_neg (by decide)]
  | [b, c] => simp at h
  | [b, c, f] => simp only [readE]; repeat rw [if_neg (by decide)]
  | _ :: _ :: _ :: _ :: _ => rfl
theorem len_2 (t : List ByteArray) (h : t.length + 1 ≠ 4) : readE (fw2 :: t) = none := by
  match t with
  | [] => rfl
  | [b] => simp only [readE]; repeat rw [if_neg (by decide)]
  | [b, c] => simp only [readE]; repeat rw [if_neg (by decide)]
  | [b, c, f] => simp at h
  | _ :: _ :: _ :: _ :: _ => rfl
theorem len_3 (t : List ByteArray) (h : t.length + 1 ≠ 3) : readE (fw3 :: t) = none := by
  match t with
  | [] => rfl
  | [b] => simp only [readE]; repeat rw [if_neg (by decide)]
  | [b, c] => simp at h
  | [b, c, f] => simp only [readE]; repeat rw [if_neg (by decide)]
  | _ :: _ :: _ :: _ :: _ => rfl
theorem len_4 (t : List ByteArray) (h : t.length + 1 ≠ 3) : readE (fw4 :: t) = none := by
  match t with
  | [] => rfl
  | [b] => simp only [readE]; repeat rw [if_neg (by decide)]
  | [b, c] => simp at h
  | [b, c, f] => simp only [readE]; repeat rw [if_neg (by decide)]
  | _ :: _ :: _ :: _ :: _ => rfl
theorem none_of {a : ByteArray} (t : List ByteArray) (h0 : a ≠ fw0) (h1 : a ≠ fw1) (h2 : a ≠ fw2) (h3 : a ≠ fw3) (h4 : a ≠ fw4) : readE (a :: t) = none := by
  match t with
  | [] => rfl
  | [b] => simp only [readE]; rw [if_neg h0]
  | [b, c] => simp only [readE]; rw [if_neg h1, if_neg h3, if_neg h4]
  | [b, c, f] => simp only [readE]; rw [if_neg h2]
  | _ :: _ :: _ :: _ :: _ => rfl

theorem readEntry_wds (B : Nat) (y : Yw) (C : Nat → Prop) (w : World) (hx : WdsAt y C w) (hF : FormsAt w) (hE : Env B w) (hB : B ≤ w.heap.size) :
    Calls Tryd.prog 12 #[.slice (some ⟨y.ad, 0, none⟩) y.ws.length y.cap] w fun e w' => Below w.heap.size w w' ∧ ReadEn (readE y.ws) w e w' := by
  obtain ⟨ad, cap, ws, wh⟩ := y
  match ws, hx with
  | [], hx => exact absurd hx.pos (by simp)
  | a :: t, hx =>
    have hlt : ad < w.heap.size := hx.lt
    have hn : (a :: t).length ≤ 1048577 := hx.len
    have c0 : w.cell? ⟨ad, 0, none⟩ = some (.string a) := hx.cells 0 (by simp)
    by_cases h0 : a = fw0
    · subst h0
      by_cases hl : t.length + 1 = 2
      · match t, hl, hx with
        | [b], _, hx =>
          exact entry_plain B ad cap fw0 b fw0 1 false w (by omega) hlt c0 (hx.cells 1 (by simp)) (hx.sizes 1 (by simp)) hF hE hB rfl _ rfl
      · rw [show readE (Yw.mk ad cap (fw0 :: t) wh).ws = none from len_0 t hl]
        exact entry_no ad _ cap fw0 fw0 1 false false false true w hlt (by simp) hn c0 hF rfl (.inr (by simp at hl ⊢; omega))
    by_cases h1 : a = fw1
    · subst h1
      by_cases hl : t.length + 1 = 3
      · match t, hl, hx with
        | [b, c], _, hx =>
          exact entry_mode B ad cap fw1 b c fw1 2 true w (by omega) hlt c0 (hx.cells 1 (by simp)) (hx.cells 2 (by simp)) (hx.sizes 1 (by simp)) (hx.sizes 2 (by simp)) hF hE hB rfl _ rfl
      · rw [show readE (Yw.mk ad cap (fw1 :: t) wh).ws = none from len_1 t hl]
        exact entry_no ad _ cap fw1 fw1 2 true true false true w hlt (by simp) hn c0 hF rfl (.inr (by simp at hl ⊢; omega))
    by_cases h2 : a = fw2
    · subst h2
      by_cases hl : t.length + 1 = 4
      · match t, hl, hx with
        | [b, c, f], _, hx =>
          exact entry_both B ad cap fw2 b c f fw2 2 false w (by omega) hlt c0 (hx.cells 1 (by simp)) (hx.cells 2 (by simp)) (hx.cells 3 (by simp)) (hx.sizes 1 (by simp)) (hx.sizes 2 (by simp)) (hx.sizes 3 (by simp)) hF hE hB rfl _ rfl
      · rw [show readE (Yw.mk ad cap (fw2 :: t) wh).ws = none from len_2 t hl]
        exact entry_no ad _ cap fw2 fw2 2 false true true true w hlt (by simp) hn c0 hF rfl (.inr (by simp at hl ⊢; omega))
    by_cases h3 : a = fw3
    · subst h3
      by_cases hl : t.length + 1 = 3
      · match t, hl, hx with
        | [b, c], _, hx =>
          exact entry_mode B ad cap fw3 b c fw3 3 false w (by omega) hlt c0 (hx.cells 1 (by simp)) (hx.cells 2 (by simp)) (hx.sizes 1 (by simp)) (hx.sizes 2 (by simp)) hF hE hB rfl _ rfl
      · rw [show readE (Yw.mk ad cap (fw3 :: t) wh).ws = none from len_3 t hl]
        exact entry_no ad _ cap fw3 fw3 3 false true false true w hlt (by simp) hn c0 hF rfl (.inr (by simp at hl ⊢; omega))
    by_cases h4 : a = fw4
    · subst h4
      by_cases hl : t.length + 1 = 3
      · match t, hl, hx with
        | [b, c], _, hx =>
          exact entry_data B ad cap fw4 b c fw4 4 false w (by omega) hlt c0 (hx.cells 1 (by simp)) (hx.cells 2 (by simp)) (hx.sizes 1 (by simp)) (hx.sizes 2 (by simp)) hF hE hB rfl _ rfl
      · rw [show readE (Yw.mk ad cap (fw4 :: t) wh).ws = none from len_4 t hl]
        exact entry_no ad _ cap fw4 fw4 4 false false true true w hlt (by simp) hn c0 hF rfl (.inr (by simp at hl ⊢; omega))
    · rw [show readE (Yw.mk ad cap (a :: t) wh).ws = none from none_of t h0 h1 h2 h3 h4]
      exact entry_no ad _ cap a ⟨#[]⟩ 0 false false false false w hlt (by simp) hn c0 hF (by unfold formN; rw [if_neg h0, if_neg h1, if_neg h2, if_neg h3, if_neg h4]) (.inl rfl)

end Go.Proofs.YtkidfflmbfnogaaDoor
