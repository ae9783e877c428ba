/- Bytes in figures: how long their text is. -/
import Derived.Test.YtigammadhpgahaaDoorTxt
namespace Go.Proofs.YtigammadhpgahaaDoor
open Go.RowKit

theorem hexL_len : ∀ (l : List UInt8), (hexL l).length = 2 * l.length
  | [] => rfl
  | x :: r => by
    have h2 := hexL_len r
    have e : (hexL (x :: r)).length = 2 + (hexL r).length := by simp [hexL]; omega
    rw [e, h2, List.length_cons]; omega
theorem dataL_len (b : ByteArray) (h : b.size ≤ 24) : (tx (dataL b)).size ≤ 100 := by
  have : (dataL b).length ≤ 48 := by
    unfold dataL
    split
    · simp
    · rw [hexL_len]
      have e2 : b.data.toList.length = b.size := by simp
      omega
  show (dataL b).toArray.size ≤ 100
  simp; omega

end Go.Proofs.YtigammadhpgahaaDoor
