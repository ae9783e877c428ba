/- Numbers in decimals, written by the specification. -/
import Derived.Test.YtblcmnlbapbebaaDoorLow
import Derived.Lib.ItoaNum
import Derived.Lib.ItoaLen
import Derived.Lib.ItoaMem
import Derived.Deep.QuietTactic
import Derived.BigQuiet
import Derived.Deep.RegionWith
import Derived.Laws.IdiomStrings
namespace Go.Proofs.YtblcmnlbapbebaaDoor
open Go.RowKit

/-- A number's text. -/
def dgs (n : Nat) : ByteArray := ⟨(Go.Lib.decDigits n).toArray⟩
theorem dgs_size (n : Nat) (h : n ≤ 9223372036854775807) : (dgs n).size ≤ 21 := by
  have h1 := Go.Lib.itoa_length_le (n : Int) (by omega) (by omega)
  rw [Go.Lib.itoa_nonneg] at h1
  show (Go.Lib.decDigits n).toArray.size ≤ 21
  simpa using h1
theorem dgs_small (n : Nat) (h : n < 10) : dgs n = ⟨#[UInt8.ofNat (48 + n)]⟩ := by
  rw [dgs, Go.Lib.decDigits_one h]
theorem dgs_big (n : Nat) (h : ¬ n < 10) : dgs n = dgs (n / 10) ++ ⟨#[UInt8.ofNat (48 + n % 10)]⟩ := by
  have : dgs (n / 10) ++ ⟨#[UInt8.ofNat (48 + n % 10)]⟩ = ⟨(Go.Lib.decDigits (n / 10) ++ [UInt8.ofNat (48 + n % 10)]).toArray⟩ := by
    apply ByteArray.ext
    rw [ByteArray.data_append]
    simp [dgs]
  rw [this, dgs]
  congr 2
  rw [Go.Lib.decDigits, dif_neg h]

theorem conv_at (W : World) (b : Nat) (m : Nat) (hm : m < 256) (h : W.cell? ⟨b, 0, none⟩ = some (.int .u8 (m : Int))) : (convert 65 9 (.slice (some ⟨b, 0, none⟩) 1 1)).run Tryd.prog W = .ok (.string ⟨#[UInt8.ofNat m]⟩) W :=
  run_convert_bytes_back (P := Tryd.prog) _ 65 9 5 ⟨b, 0, none⟩ 1 [UInt8.ofNat m] Tryd.underlying65 Tryd.underlying5 Tryd.underlying9 (fun j hj => by
    have hj0 : j = 0 := by simp at hj; omega
    subst hj0
    have hn : ((UInt8.ofNat m).toNat : Int) = (m : Int) := by
      have : (UInt8.ofNat m).toNat = m := by rw [UInt8.toNat_ofNat']; omega
      omega
    show _ = some (Value.int .u8 ((UInt8.ofNat m).toNat : Int))
    rw [hn]
    exact h)


end Go.Proofs.YtblcmnlbapbebaaDoor
