/- A mode's text, written by the specification. -/
import Derived.Test.YtkidfflmbfnogaaDoorTxt
import Derived.Laws.IdiomStrings
namespace Go.Proofs.YtkidfflmbfnogaaDoor
open Go.RowKit

/-- A mode's text. -/
def decL (m : Nat) : List UInt8 := [UInt8.ofNat (48 + m)]

set_option maxRecDepth 100000 in
set_option maxHeartbeats 1000000 in
theorem l1Dec_small (m : Nat) (w : World) (hm : m < 10) :
    Calls Tryd.prog 33 #[.int .i64 (m : Int)] w fun e w' => e = .returned (.string (tx (decL m))) ∧ Below w.heap.size w w' := by
  have hcv : (convert 57 9 (.slice (some ⟨w.heap.size, 0, none⟩) 1 1)).run Tryd.prog (w.alloc (.cells #[.int .u8 (48 + (m : Int))] 5)) = .ok (.string (tx (decL m))) (w.alloc (.cells #[.int .u8 (48 + (m : Int))] 5)) :=
    run_convert_bytes_back (P := Tryd.prog) _ 57 9 5 ⟨w.heap.size, 0, none⟩ 1 [UInt8.ofNat (48 + m)] Tryd.underlying57 Tryd.underlying5 Tryd.underlying9 (fun j hj => by
      have hj0 : j = 0 := by simp at hj; omega
      subst hj0
      have hc : (w.alloc (.cells #[.int .u8 (48 + (m : Int))] 5)).cell? ⟨w.heap.size, 0, none⟩ = some (.int .u8 (48 + (m : Int))) := by simp
      have hn : ((UInt8.ofNat (48 + m)).toNat : Int) = 48 + (m : Int) := by
        have : (UInt8.ofNat (48 + m)).toNat = 48 + m := by
          rw [UInt8.toNat_ofNat']; omega
        omega
      show _ = some (Value.int .u8 ((UInt8.ofNat (48 + m)).toNat : Int))
      rw [hn]
      exact hc)
  have hB : Below w.heap.size w (w.alloc (.cells #[.int .u8 (48 + (m : Int))] 5)) := (Below.refl _ _).alloc (Nat.le_refl _) _
  go_enter Tryd.func33, Tryd.ntmps33
  go_wp2_with fail
  go_ret
  exact ⟨rfl, hB⟩

end Go.Proofs.YtkidfflmbfnogaaDoor
