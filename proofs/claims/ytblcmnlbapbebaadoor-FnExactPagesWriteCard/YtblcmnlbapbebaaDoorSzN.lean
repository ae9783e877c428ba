/- The laws' count of strings: what is below 0, and what fits. -/
import Derived.Test.YtblcmnlbapbebaaDoorSz
namespace Go.Proofs.YtblcmnlbapbebaaDoor
open Go.RowKit

theorem szLoop_neg : ∀ (l : List ByteArray) (L : Int), 0 ≤ L → szLoop l L < 0 → szLoop l L = -1
  | [], L, h0, h => by rw [szLoop] at h; omega
  | s :: r, L, h0, h => by
    rw [szLoop] at h ⊢
    split
    · rfl
    · rename_i hn
      rw [if_neg hn] at h
      exact szLoop_neg r _ (by omega) h
theorem szStrs_neg (l : List ByteArray) (L : Int) (h : szStrs l L < 0) : szStrs l L = -1 := by
  rw [szStrs] at h ⊢
  split
  · rfl
  · rename_i hn
    rw [if_neg hn] at h
    exact szLoop_neg l _ (by omega) h
theorem szStrs_fits (l : List ByteArray) (L : Int) (h : 0 ≤ szStrs l L) : (l.length : Int) ≤ L := by
  rw [szStrs] at h
  split at h <;> omega

end Go.Proofs.YtblcmnlbapbebaaDoor
