/- What holds of every part holds of what is at a path; what an ok tree's parts are like. -/
import Derived.Test.YtifbbbgcdklaaaaProg
import Derived.Test.YtifbbbgcdklaaaaAt
import Derived.Test.YtifbbbgcdklaaaaRoot
namespace Go.Proofs.Ytifbbbgcdklaaaa
open Go.RowKit

theorem atT_ind (P : (n : Nat) → T n → Prop) (hP : ∀ (n : Nat) (t : T (n + 1)), P (n + 1) t → ∀ (i : Nat) (h : i < t.kids.length), P n t.kids[i]) :
    ∀ (n : Nat) (t : T n) (path : List ByteArray) (m : Nat) (u : T m), P n t → atT n t path = some ⟨m, u⟩ → P m u
  | 0, t, _, _, _, _, _ => Empty.elim (show Empty from t)
  | n + 1, t, [], m, u, h, e => by
    rw [atT] at e
    cases e
    exact h
  | n + 1, t, s :: r, m, u, h, e => by
    rw [atT] at e
    split at e
    · cases e
    · rename_i i _
      split at e
      · cases e
      · rename_i k hk
        obtain ⟨hi, rfl⟩ := List.getElem?_eq_some_iff.1 hk
        exact atT_ind P hP n _ r m u (hP n t h i hi) e

theorem at_count {n : Nat} {t : T n} {path : List ByteArray} {m : Nat} {u : T m} (h : countT n t ≤ 1048576) (e : atT n t path = some ⟨m, u⟩) : countT m u ≤ 1048576 :=
  atT_ind (fun n t => countT n t ≤ 1048576) (fun _ t h i hi => Nat.le_trans (kid_le t i hi) h) n t path m u h e
theorem at_parts {n : Nat} {t : T n} {path : List ByteArray} {m : Nat} {u : T m} {d : Int} (h : partsB n t d = true) (e : atT n t path = some ⟨m, u⟩) : ∃ d', partsB m u d' = true :=
  atT_ind (fun n t => ∃ d', partsB n t d' = true) (fun _ t ⟨d', h⟩ i hi => by
    have h' : (plainB t.dir t.mode t.data t.names t.kids.length && decide (d' ≤ 4) && t.kids.all (fun k => partsB _ k (d' + 1))) = true := h
    rw [Bool.and_eq_true, Bool.and_eq_true] at h'
    exact ⟨d' + 1, List.all_eq_true.1 h'.2 _ (List.getElem_mem hi)⟩) n t path m u ⟨d, h⟩ e

theorem ok_dir {n : Nat} {t : T n} (h : okT n t = true) {w : World} {lo hi b : Nat} (hd : DRepT w lo hi n t b) : PRep w lo hi n t (.iface 55 (.pointer (some ⟨b, 0, none⟩))) := by
  cases n with
  | zero => exact Empty.elim (show Empty from t)
  | succ n =>
    have h' : (t.dir && partsB (n + 1) t 0 && decide (countT (n + 1) t ≤ 30)) = true := h
    rw [Bool.and_eq_true, Bool.and_eq_true] at h'
    exact .inr ⟨h'.1.1, b, rfl, hd⟩
theorem ok_parts {n : Nat} {t : T n} (h : okT n t = true) : partsB n t 0 = true ∧ countT n t ≤ 1048576 := by
  cases n with
  | zero => exact Empty.elim (show Empty from t)
  | succ n =>
    have h' : (t.dir && partsB (n + 1) t 0 && decide (countT (n + 1) t ≤ 30)) = true := h
    rw [Bool.and_eq_true, Bool.and_eq_true] at h'
    have := of_decide_eq_true h'.2
    exact ⟨h'.1.2, by omega⟩

theorem data_small {n : Nat} {t : T (n + 1)} {d : Int} (h : partsB (n + 1) t d = true) : t.data.size ≤ 24 := by
  have h' : (plainB t.dir t.mode t.data t.names t.kids.length && decide (d ≤ 4) && t.kids.all (fun k => partsB n k (d + 1))) = true := h
  rw [Bool.and_eq_true, Bool.and_eq_true] at h'
  have h2 := h'.1.1
  rw [plainB] at h2
  simp only [Bool.and_eq_true] at h2
  cases hd : t.dir with
  | false =>
    have := h2.2
    rw [hd] at this
    simp only [Bool.false_eq_true, if_false, Bool.and_eq_true, decide_eq_true_eq] at this
    omega
  | true =>
    have := h2.2
    rw [hd] at this
    simp only [if_true, Bool.and_eq_true, beq_iff_eq] at this
    omega

end Go.Proofs.Ytifbbbgcdklaaaa
