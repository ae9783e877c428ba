/- When a store is ok, by the program. -/
import Derived.Test.YtofgadldopaniaaDoorSvK
namespace Go.Proofs.YtofgadldopaniaaDoor
open Go.RowKit

set_option maxHeartbeats 4000000 in
theorem isStore_any (s : St) (gv : Value) (w : World) (lo hi : Nat) (hv : StrsAt w lo hi gv s.groups) (hhi : hi ≤ w.heap.size) (hl : s.groups.length ≤ 1048576) (ht : s.text.size ≤ 1048576) :
    Calls Tryd.prog 32 #[stV s gv] w fun e w' => e = .returned (.bool (okS s)) ∧ Below w.heap.size w w' := by
  obtain ⟨gen, text, groups, next⟩ := s
  have hv : StrsAt w lo hi gv groups := hv
  have hl : groups.length ≤ 1048576 := hl
  have ht : text.size ≤ 1048576 := ht
  show Calls Tryd.prog 32 #[.agg #[.int .i64 gen, .string text, gv, .int .i64 next]] w _
  have HG := hide (okS_group ⟨gen, text, groups, next⟩)
  have HNo := hide (okS_no ⟨gen, text, groups, next⟩)
  have HYes := hide (okS_yes ⟨gen, text, groups, next⟩)
  generalize okS ⟨gen, text, groups, next⟩ = ok at *
  have HNo : Hid (¬ (1 ≤ gen ∧ gen ≤ 99999 ∧ text.size ≤ 5760 ∧ (sumB groups : Int) = next ∧ next ≤ 12) → ok = false) := HNo
  have HTk := hide (sumB_take groups)
  have HTl : Hid (groups.take groups.length = groups) := List.take_length
  obtain ⟨a, cap, rfl, _, hs, hc⟩ := hv
  unfold maxLen at hs
  by_cases hbad : gen < 1 ∨ 99999 < gen ∨ 5760 < text.size ∨ 12 < next
  · have hr : ok = false := HNo.out (fun h => by omega)
    subst hr
    clear hc hs
    have HA : Hid (∀ o, Below w.heap.size w (w.alloc o)) := fun o => (Below.refl _ _).alloc (Nat.le_refl _) o
    rcases (by omega : gen < 1 ∨ (¬ gen < 1 ∧ 99999 < gen) ∨ (¬ gen < 1 ∧ ¬ 99999 < gen ∧ 5760 < text.size) ∨ (¬ gen < 1 ∧ ¬ 99999 < gen ∧ ¬ 5760 < text.size ∧ 12 < next)) with h | ⟨h, h2⟩ | ⟨h, h2, h3⟩ | ⟨h, h2, h3, h4⟩
    all_goals
      clear hbad
      go_enter Tryd.func32, Tryd.ntmps32
      go_wp2_with fail
      go_ret
      exact ⟨rfl, HA.out _⟩
  obtain ⟨hg1, hg2, hg3, hg4⟩ : 1 ≤ gen ∧ gen ≤ 99999 ∧ text.size ≤ 5760 ∧ next ≤ 12 := by omega
  clear hbad
  go_enter Tryd.func32, Tryd.ntmps32
  go_wp2_with fail
  generalize hW : w.alloc (Obj.cells #[.int .i64 gen, .string text, .slice a groups.length cap, .int .i64 next] 32) = W
  have HW : Hid (Below w.heap.size w W) := by subst hW; exact (Below.refl _ _).alloc (Nat.le_refl _) _
  have hB0 : Blk W w.heap.size #[.int .i64 gen, .string text, .slice a groups.length cap, .int .i64 next] 32 := by subst hW; exact Blk.new w _ _
  have c3 := hB0.cell 3 _ rfl
  clear hW hB0
  go_loop [3, 28] (fun x i => ∃ (k m : Nat), k ≤ groups.length ∧ i = .int .i64 k ∧ x = .int .i64 m ∧ m ≤ 11 * k ∧ Hid (m = sumB (groups.take k)) ∧ Hid (∀ (j : Nat) (hj : j < groups.length), j < k → groups[j].size ≤ 600)) (fun _ i => groups.length - (intOf i).toNat)
  case atStart => exact ⟨0, 0, Nat.zero_le _, rfl, rfl, Nat.le_refl _, rfl, fun j _ h => by omega⟩
  case round =>
    obtain ⟨k, m, hk, rfl, rfl, hm, HM, HK⟩ := hrel
    by_cases hlt : k < groups.length
    · obtain ⟨b, o, rfl, hb1, hb2, hcell⟩ := hc (by omega)
      have hck := hcell k hlt
      rw [← HW.out.cell (p := ⟨b, _, none⟩) (by show b < w.heap.size; omega)] at hck
      have hsk := hs k hlt
      clear hc hcell hs
      by_cases h64 : groups[k].size ≤ 600
      · have HBl := hide (fun W => groupBlocks_any groups[k].size W (by omega))
        have HM2 : Hid (m + gbl groups[k].size = sumB (groups.take (k + 1))) := by show _ = _; rw [HTk.out k hlt, HM.out]
        have hgb : gbl groups[k].size ≤ 11 := by unfold gbl; omega
        generalize gbl groups[k].size = q at *
        go_wp2_with (go_at_call 34; refine (HBl.out _).mono ?_; rintro e1 w1 ⟨rfl, rfl⟩)
        go_round
        case rel =>
          refine ⟨k + 1, m + q, by omega, by go_num, by go_num, by omega, HM2, fun j hj hjk => ?_⟩
          by_cases e : j = k
          · subst e; exact h64
          · exact HK.out j hj (by omega)
        case measure => simp [intOf]; omega
      · have HR := hide (HG.out k hlt h64)
        go_wp2
        go_ret
        exact ⟨by rw [HR.out]; rfl, HW.out⟩
    · have hkl : k = groups.length := by omega
      subst hkl
      have hm2 : m = sumB groups := by rw [HM.out, HTl.out]
      have HSz := hide (fun (j : Nat) (hj : j < groups.length) => HK.out j hj hj)
      clear hc hs HK
      by_cases hnx : (m : Int) = next
      · have hr : ok = true := HYes.out ⟨hg1, hg2, hg3, by rw [← hm2]; exact hnx, hg4⟩ HSz.out
        have hq1 : (next == (m : Int)) = true := by simp [hnx]
        subst hr
        clear hnx hm2
        go_wp2
        go_ret
        exact ⟨by first | rfl | rw [hq1], HW.out⟩
      · have hr : ok = false := HNo.out (fun h => hnx (by rw [hm2]; exact h.2.2.2.1))
        have hq1 : (next == (m : Int)) = false := by rw [beq_eq_false_iff_ne]; exact fun e => hnx e.symm
        subst hr
        clear hnx hm2
        go_wp2
        go_ret
        exact ⟨by first | rfl | rw [hq1], HW.out⟩

end Go.Proofs.YtofgadldopaniaaDoor
