/- What the laws' count tells: a tree that it lets by has short lists and few parts. -/
import Derived.Test.YtifbbbgcdklaaaaTo
import Derived.Test.YtifbbbgcdklaaaaParts
namespace Go.Proofs.Ytifbbbgcdklaaaa
open Go.RowKit

theorem szStrs_len (l : List ByteArray) (L : Int) (h : 0 ≤ szStrs l L) : (l.length : Int) ≤ L := by
  rw [szStrs] at h
  split at h
  · omega
  · omega

theorem szKidsLoop_sum {α : Type} (f : α → Int → Int) (g : α → Nat) (hf : ∀ t L, 0 ≤ L → f t L ≤ L) (hg : ∀ t L, 0 ≤ L → 0 ≤ f t L → (g t : Int) ≤ L - f t L) : ∀ (l : List α) (L : Int), 0 ≤ L → 0 ≤ szKidsLoop f l L → ((l.map g).sum : Int) ≤ L - szKidsLoop f l L
  | [], L, _, _ => by simp [szKidsLoop]
  | t :: r, L, h0, h => by
    rw [szKidsLoop] at h ⊢
    split at h
    · omega
    · rename_i hn
      rw [if_neg hn]
      have h1 := hg t L h0 (by omega)
      have h2 := szKidsLoop_sum f g hf hg r (f t L) (by omega) h
      simp only [List.map_cons, List.sum_cons]
      omega

theorem szKidsLoop_each {α : Type} (f : α → Int → Int) (P : α → Prop) (hf : ∀ t L, 0 ≤ L → f t L ≤ L) (hP : ∀ t L, 0 ≤ L → L ≤ 1048576 → 0 ≤ f t L → P t) : ∀ (l : List α) (L : Int), 0 ≤ L → L ≤ 1048576 → 0 ≤ szKidsLoop f l L → ∀ t ∈ l, P t
  | [], _, _, _, _ => fun t ht => by cases ht
  | t :: r, L, h0, h1, h => by
    rw [szKidsLoop] at h
    split at h
    · omega
    · rename_i hn
      intro x hx
      have hle := hf t L h0
      rcases List.mem_cons.1 hx with rfl | hx
      · exact hP _ L h0 h1 (by omega)
      · exact szKidsLoop_each f P hf hP r (f t L) (by omega) (by omega) h x hx

theorem szT_parts (n : Nat) (t : T (n + 1)) (L : Int) (_h0 : 0 ≤ L) (h : 0 ≤ szT (n + 1) t L) :
    0 ≤ L - t.data.size ∧ 0 ≤ szStrs t.names (L - t.data.size) ∧ szStrs t.names (L - t.data.size) ≤ L - t.data.size ∧ 0 ≤ szStrs t.names (L - t.data.size) - t.kids.length ∧
      szT (n + 1) t L = szKidsLoop (szT n) t.kids (szStrs t.names (L - t.data.size) - t.kids.length) := by
  rw [szT] at h ⊢
  split at h
  · omega
  · rename_i h1
    split at h
    · omega
    · rename_i h2
      split at h
      · omega
      · rename_i h3
        rw [if_neg h1, if_neg h2, if_neg h3]
        have h4 := szStrs_le t.names (L - t.data.size) (by omega)
        rw [szKids] at h3 ⊢
        split at h3
        · omega
        · rename_i h5
          rw [if_neg h5]
          exact ⟨by omega, by omega, h4, by omega, rfl⟩

theorem szT_count : ∀ (n : Nat) (t : T n) (L : Int), 0 ≤ L → 0 ≤ szT n t L → (countT n t : Int) ≤ L - szT n t L
  | 0, t, _, _, _ => Empty.elim (show Empty from t)
  | n + 1, t, L, h0, h => by
    obtain ⟨h1, h2, h3, h4, h5⟩ := szT_parts n t L h0 h
    rw [h5] at h ⊢
    have h6 := szKidsLoop_sum (szT n) (countT n) (szT_le n) (szT_count n) t.kids _ h4 h
    have h7 : countT (n + 1) t = t.kids.length + (t.kids.map (countT n)).sum := rfl
    rw [h7]
    omega

theorem szT_sm : ∀ (n : Nat) (t : T n) (L : Int), 0 ≤ L → L ≤ 1048576 → 0 ≤ szT n t L → Sm n t
  | 0, t, _, _, _, _ => Empty.elim (show Empty from t)
  | n + 1, t, L, h0, hL, h => by
    obtain ⟨h1, h2, h3, h4, h5⟩ := szT_parts n t L h0 h
    have h6 := szStrs_len t.names _ h2
    rw [h5] at h
    have h7 := szKidsLoop_each (szT n) (Sm n) (szT_le n) (szT_sm n) t.kids _ h4 (by omega) h
    exact ⟨by omega, by omega, fun i hi => h7 _ (List.getElem_mem hi)⟩

end Go.Proofs.Ytifbbbgcdklaaaa
