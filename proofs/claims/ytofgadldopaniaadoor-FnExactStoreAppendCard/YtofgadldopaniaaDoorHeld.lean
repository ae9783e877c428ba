/- heldStringS, heldTreeS, heldTree: of what is marked they give the number behind the last mark. -/
import Derived.Deep.RegionWith
import Derived.Test.YtofgadldopaniaaDoorProg
import Derived.Test.YtofgadldopaniaaDoorMarkT
namespace Go.Proofs.YtofgadldopaniaaDoor
open Go.RowKit

set_option maxHeartbeats 1000000 in
theorem heldStringS_any (l : List ByteArray) (v : Value) (k : Nat) (w : World) (lo hi : Nat) (hv : StrsAt w lo hi v (markL k l)) (hhi : hi ≤ w.heap.size) (hk0 : 0 < k) (hk : k + l.length ≤ 1073741824) :
    Calls Tryd.prog 39 #[v, .int .i64 k] w fun e w' => e = .returned (.int .i64 ((k + l.length : Nat) : Int)) ∧ Below w.heap.size w w' := by
  obtain ⟨a, cap, rfl, hl, _, hc⟩ := hv
  rw [markL_length] at hl ⊢
  unfold maxLen at hl
  have HC : Hid (0 < l.length → ∃ b o, a = some ⟨b, o, none⟩ ∧ lo ≤ b ∧ b < hi ∧ ∀ (i : Nat), i < l.length → w.cell? ⟨b, o + i, none⟩ = some (.string (mtext (k + i)))) := fun h => by
    obtain ⟨b, o, h1, h2, h3, h4⟩ := hc (by rw [markL_length]; exact h)
    exact ⟨b, o, h1, h2, h3, fun i hi => by have := h4 i (by rw [markL_length]; exact hi); rw [markL_get] at this; exact this⟩
  clear hc
  go_enter Tryd.func39, Tryd.ntmps39
  go_wp2_with fail
  go_loopw [1, 5] (fun x i wr => ∃ (j kj : Nat), j ≤ l.length ∧ x = .int .i64 (kj : Int) ∧ i = .int .i64 j ∧ Hid (kj = k + j) ∧ Hid (Below w.heap.size w wr)) (fun _ i _ => l.length - (intOf i).toNat)
  case atStart => exact ⟨0, k, Nat.zero_le _, rfl, rfl, rfl, Below.refl _ _⟩
  case round =>
    obtain ⟨j, kj, hj, rfl, rfl, HKj, HB⟩ := hrel
    by_cases hlt : j < l.length
    · obtain ⟨b, o, rfl, hb1, hb2, hcell⟩ := HC.out (by omega)
      have hck := hcell j hlt
      rw [← HKj.out, ← HB.out.cell (p := ⟨b, o + j, none⟩) (by show b < w.heap.size; omega)] at hck
      have hltI : (j : Int) < (l.length : Int) := by omega
      have HMT : Hid (∀ W, Below w.heap.size w W → Calls Tryd.prog 24 #[.int .i64 (kj : Int)] W fun e' w' => e' = .returned (.string (mtext kj)) ∧ Below w.heap.size w w') := fun W hW => (markText_any kj W (by have := HKj.out; omega) (by have := HKj.out; omega)).mono fun e' w' ⟨h1, h2⟩ => ⟨h1, hW.trans (h2.mono hW.size)⟩
      have HCk : Hid (∀ W, Below w.heap.size w W → W.cell? ⟨b, o + j, none⟩ = some (.string (mtext kj))) := fun W hW => by
        rw [hW.cell (p := ⟨b, o + j, none⟩) (by show b < w.heap.size; omega), HKj.out]; exact hcell j hlt
      have hkjb : kj ≤ 1073741824 := by have := HKj.out; omega
      clear hcell
      go_wp2_with fail
      go_region_with (go_at_call 24; refine (HMT.out _ (by first | exact HB.out.drew | exact HB.out)).mono ?_; rintro e1 w1 ⟨rfl, hB1⟩; have HB1 := hide hB1; have hck1 := HCk.out w1 hB1; clear hB1)
      all_goals
        go_wp2_with fail
        go_roundw
        case rel => exact ⟨j + 1, kj + 1, by omega, by go_num, by go_num, (by show kj + 1 = _; have := HKj.out; omega), HB1⟩
        case measure => simp [intOf]; omega
    · have e1 : j = l.length := by omega
      subst e1
      have hkj := HKj.out
      subst hkj
      go_wp2_with fail
      go_ret
      exact ⟨rfl, HB.out⟩


end Go.Proofs.YtofgadldopaniaaDoor
