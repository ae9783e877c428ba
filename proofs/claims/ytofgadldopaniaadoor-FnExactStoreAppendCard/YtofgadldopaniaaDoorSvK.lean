/- When a store is ok, by both sides. -/
import Derived.Test.YtofgadldopaniaaDoorSvG
import Derived.Test.YtofgadldopaniaaDoorIn21
namespace Go.Proofs.YtofgadldopaniaaDoor
open Go.RowKit

/-- How many blocks a group of so many bytes has. -/
def gbl (n : Nat) : Nat := 1 + (n + 62) / 63
def sumB (l : List ByteArray) : Nat := (l.map fun g => gbl g.size).sum
def okS (s : St) : Bool := ((decide (1 ≤ s.gen) && decide (s.gen ≤ 99999)) && decide (s.text.size ≤ 5760)) && (decide ((sumB s.groups : Int) = s.next) && decide (s.next ≤ 12)) && s.groups.all (fun g => decide (g.size ≤ 600))
theorem okS_group (s : St) (k : Nat) (h : k < s.groups.length) (hn : ¬ s.groups[k].size ≤ 600) : okS s = false := by
  rw [okS, Bool.and_eq_false_iff]
  exact .inr (List.all_eq_false.2 ⟨s.groups[k], List.getElem_mem h, by simpa using hn⟩)
theorem okS_no (s : St) (h : ¬ (1 ≤ s.gen ∧ s.gen ≤ 99999 ∧ s.text.size ≤ 5760 ∧ (sumB s.groups : Int) = s.next ∧ s.next ≤ 12)) : okS s = false := by
  rw [okS, Bool.and_eq_false_iff]
  left
  rw [← Bool.not_eq_true]
  intro h2
  simp only [Bool.and_eq_true, decide_eq_true_eq] at h2
  exact h ⟨h2.1.1.1, h2.1.1.2, h2.1.2, h2.2.1, h2.2.2⟩
theorem okS_yes (s : St) (h : 1 ≤ s.gen ∧ s.gen ≤ 99999 ∧ s.text.size ≤ 5760 ∧ (sumB s.groups : Int) = s.next ∧ s.next ≤ 12) (hg : ∀ (k : Nat) (h : k < s.groups.length), s.groups[k].size ≤ 600) : okS s = true := by
  rw [okS, Bool.and_eq_true]
  refine ⟨by simp [h.1, h.2.1, h.2.2.1, h.2.2.2.1, h.2.2.2.2], List.all_eq_true.2 fun x hx => ?_⟩
  obtain ⟨k, hk, rfl⟩ := List.getElem_of_mem hx
  simpa using hg k hk
theorem okS_out (s : St) (h : okS s = true) : (1 ≤ s.gen ∧ s.gen ≤ 99999 ∧ s.text.size ≤ 5760 ∧ (sumB s.groups : Int) = s.next ∧ s.next ≤ 12) ∧ ∀ (k : Nat) (h : k < s.groups.length), s.groups[k].size ≤ 600 := by
  rw [okS, Bool.and_eq_true] at h
  refine ⟨?_, fun k hk => ?_⟩
  · have h2 := h.1
    simp only [Bool.and_eq_true, decide_eq_true_eq] at h2
    exact ⟨h2.1.1.1, h2.1.1.2, h2.1.2, h2.2.1, h2.2.2⟩
  · simpa using List.all_eq_true.1 h.2 s.groups[k] (List.getElem_mem hk)
theorem sumB_take (l : List ByteArray) (k : Nat) (h : k < l.length) : sumB (l.take (k + 1)) = sumB (l.take k) + gbl l[k].size := by
  rw [sumB, sumB, List.take_succ_eq_append_getElem h, List.map_append, List.sum_append]; simp
theorem sumB_len : ∀ (l : List ByteArray), l.length ≤ sumB l
  | [] => Nat.le_refl _
  | g :: l => by have := sumB_len l; simp [sumB, gbl] at *; omega

set_option maxHeartbeats 400000 in
theorem groupBlocks_any (n : Nat) (w : World) (hn : n ≤ 1048576) :
    Calls Tryd.prog 34 #[.int .i64 (n : Int)] w fun e w' => e = .returned (.int .i64 ((gbl n : Nat) : Int)) ∧ w' = w := by
  have HR := hide roomOf_groupPiece
  have HQ : Hid (1 + ((n : Int) + 63 - 1) / 63 = ((gbl n : Nat) : Int)) := by show _ = _; unfold gbl; omega
  go_enter Tryd.func34, Tryd.ntmps34
  go_wp2_with (go_at_call 49; refine (HR.out _).mono ?_; rintro e1 w ⟨rfl, rfl⟩)
  go_ret
  exact ⟨by rw [← HQ.out]; rfl, rfl⟩

set_option maxHeartbeats 400000 in
theorem l22Blocks_any (s : ByteArray) (w : World) (hs : s.size ≤ 1048576) :
    Calls Tryd.prog 28 #[.string s] w fun e w' => e = .returned (.int .i64 ((gbl s.size : Nat) : Int)) ∧ w' = w := by
  have HR := hide (fun W => l22Many63_any s W hs)
  have HQ : Hid (1 + (((s.size + 62) / 63 : Nat) : Int) = ((gbl s.size : Nat) : Int)) := by show _ = _; unfold gbl; omega
  have hb : (s.size + 62) / 63 ≤ 1048576 := by omega
  generalize gbl s.size = g at *
  generalize (s.size + 62) / 63 = m at *
  go_enter Tryd.func28, Tryd.ntmps28
  go_wp2_with (go_at_call 40; refine (HR.out _).mono ?_; rintro e1 w ⟨rfl, rfl⟩)
  go_ret
  exact ⟨by rw [← HQ.out]; rfl, rfl⟩

set_option maxHeartbeats 4000000 in
theorem l22Ok_any (s : St) (gv : Value) (w : World) (lo hi : Nat) (hv : StrsAt w lo hi gv s.groups) (hhi : hi ≤ w.heap.size) (hl : s.groups.length ≤ 1048576) (ht : s.text.size ≤ 1048576) :
    Calls Tryd.prog 26 #[stV s gv] w fun e w' => e = .returned (.bool (okS s)) ∧ Below w.heap.size w w' := by
  obtain ⟨gen, text, groups, next⟩ := s
  have hv : StrsAt w lo hi gv groups := hv
  have hl : groups.length ≤ 1048576 := hl
  have ht : text.size ≤ 1048576 := ht
  show Calls Tryd.prog 26 #[.agg #[.int .i64 gen, .string text, gv, .int .i64 next]] w _
  have HG := hide (okS_group ⟨gen, text, groups, next⟩)
  have HNo := hide (okS_no ⟨gen, text, groups, next⟩)
  have HYes := hide (okS_yes ⟨gen, text, groups, next⟩)
  have HT := hide (fun W => l22TextOk_any text W ht)
  have HIn := hide (fun W => l21In_any gen 1 99999 W)
  generalize okS ⟨gen, text, groups, next⟩ = ok at *
  have HTk := hide (sumB_take groups)
  have HTl : Hid (groups.take groups.length = groups) := List.take_length
  obtain ⟨a, cap, rfl, _, hs, hc⟩ := hv
  unfold maxLen at hs
  go_enter Tryd.func26, Tryd.ntmps26
  go_wp2_with fail
  generalize hW : w.alloc (Obj.cells #[.int .i64 gen, .string text, .slice a groups.length cap, .int .i64 next] 32) = W
  have HW : Hid (Below w.heap.size w W) := by subst hW; exact (Below.refl _ _).alloc (Nat.le_refl _) _
  have hB0 : Blk W w.heap.size #[.int .i64 gen, .string text, .slice a groups.length cap, .int .i64 next] 32 := by subst hW; exact Blk.new w _ _
  have c0 := hB0.cell 0 _ rfl
  have c1 := hB0.cell 1 _ rfl
  have c2 := hB0.cell 2 _ rfl
  have c3 := hB0.cell 3 _ rfl
  clear hW hB0
  go_loop [3, 4] (fun x i => ∃ (k m : Nat), k ≤ groups.length ∧ i = .int .i64 k ∧ x = .int .i64 m ∧ m ≤ 11 * k ∧ Hid (m = sumB (groups.take k)) ∧ Hid (∀ (j : Nat) (hj : j < groups.length), j < k → groups[j].size ≤ 600)) (fun _ i => groups.length - (intOf i).toNat)
  case atStart => exact ⟨0, 0, Nat.zero_le _, rfl, rfl, Nat.le_refl _, rfl, fun j _ h => by omega⟩
  case round =>
    obtain ⟨k, m, hk, rfl, rfl, hm, HM, HK⟩ := hrel
    by_cases hlt : k < groups.length
    · obtain ⟨b, o, rfl, hb1, hb2, hcell⟩ := hc (by omega)
      have hck := hcell k hlt
      rw [← HW.out.cell (p := ⟨b, _, none⟩) (by show b < w.heap.size; omega)] at hck
      have hsk := hs k hlt
      clear hc hcell hs
      by_cases h64 : groups[k].size ≤ 600
      · have HBl := hide (fun W => l22Blocks_any groups[k] W (by omega))
        have HM2 : Hid (m + gbl groups[k].size = sumB (groups.take (k + 1))) := by show _ = _; rw [HTk.out k hlt, HM.out]
        have hgb : gbl groups[k].size ≤ 11 := by unfold gbl; omega
        generalize gbl groups[k].size = q at *
        go_wp2_with (go_at_call 28; refine (HBl.out _).mono ?_; rintro e1 w1 ⟨rfl, rfl⟩)
        go_round
        case rel =>
          refine ⟨k + 1, m + q, by omega, by go_num, by go_num, by omega, HM2, fun j hj hjk => ?_⟩
          by_cases e : j = k
          · subst e; exact h64
          · exact HK.out j hj (by omega)
        case measure => simp [intOf]; omega
      · have HR := hide (HG.out k hlt h64)
        go_wp2
        go_ret
        exact ⟨by rw [HR.out]; rfl, HW.out⟩
    · have hkl : k = groups.length := by omega
      subst hkl
      have hm2 : m = sumB groups := by rw [HM.out, HTl.out]
      have HSz := hide (fun (j : Nat) (hj : j < groups.length) => HK.out j hj hj)
      clear hc hs HK
      have HNo2 : Hid (¬ (1 ≤ gen ∧ gen ≤ 99999 ∧ text.size ≤ 5760 ∧ (m : Int) = next ∧ next ≤ 12) → ok = false) := fun h => HNo.out (by rw [← hm2]; exact h)
      have HYes2 : Hid (1 ≤ gen ∧ gen ≤ 99999 ∧ text.size ≤ 5760 ∧ (m : Int) = next ∧ next ≤ 12 → ok = true) := fun h => HYes.out (by rw [← hm2]; exact h) HSz.out
      clear HNo HYes hm2 HM HTk HTl HG
      by_cases hin : 1 ≤ gen ∧ gen ≤ 99999
      · have hd : (decide (1 ≤ gen) && decide (gen ≤ 99999)) = true := by simp [hin]
        rw [hd] at HIn
        by_cases htx : text.size ≤ 5760
        · rw [decide_eq_true htx] at HT
          by_cases hnx : (m : Int) = next
          · subst hnx
            have hq1 : ((m : Int) == (m : Int)) = true := by simp
            by_cases h12 : m ≤ 12
            · have hr : ok = true := HYes2.out ⟨hin.1, hin.2, htx, rfl, by omega⟩
              have hq2 : decide ((m : Int) ≤ 12) = true := by simp; omega
              subst hr
              clear hin htx
              go_wp2_with (first | (go_at_call 47; refine (HIn.out _).mono ?_; rintro e1 w1 ⟨rfl, rfl⟩) | (go_at_call 20; refine (HT.out _).mono ?_; rintro e1 w1 ⟨rfl, rfl⟩))
              go_ret
              exact ⟨by first | rfl | rw [hq2], HW.out⟩
            · have hr : ok = false := HNo2.out (fun h => by omega)
              have hq2 : decide ((m : Int) ≤ 12) = false := by simp; omega
              subst hr
              clear hin htx
              go_wp2_with (first | (go_at_call 47; refine (HIn.out _).mono ?_; rintro e1 w1 ⟨rfl, rfl⟩) | (go_at_call 20; refine (HT.out _).mono ?_; rintro e1 w1 ⟨rfl, rfl⟩))
              go_ret
              exact ⟨by first | rfl | rw [hq2], HW.out⟩
          · have hr : ok = false := HNo2.out (fun h => hnx h.2.2.2.1)
            have hq1 : ((m : Int) == next) = false := by simpa using hnx
            subst hr
            clear hin htx hnx
            go_wp2_with (first | (go_at_call 47; refine (HIn.out _).mono ?_; rintro e1 w1 ⟨rfl, rfl⟩) | (go_at_call 20; refine (HT.out _).mono ?_; rintro e1 w1 ⟨rfl, rfl⟩))
            go_ret
            exact ⟨by first | rfl | rw [hq1], HW.out⟩
        · rw [decide_eq_false htx] at HT
          have hr : ok = false := HNo2.out (fun h => htx h.2.2.1)
          subst hr
          clear hin htx
          go_wp2_with (first | (go_at_call 47; refine (HIn.out _).mono ?_; rintro e1 w1 ⟨rfl, rfl⟩) | (go_at_call 20; refine (HT.out _).mono ?_; rintro e1 w1 ⟨rfl, rfl⟩))
          go_ret
          exact ⟨rfl, HW.out⟩
      · have hd : (decide (1 ≤ gen) && decide (gen ≤ 99999)) = false := by rw [← Bool.not_eq_true]; intro h; simp at h; exact hin h
        rw [hd] at HIn
        have hr : ok = false := HNo2.out (fun h => hin ⟨h.1, h.2.1⟩)
        subst hr
        clear hin
        go_wp2_with (go_at_call 47; refine (HIn.out _).mono ?_; rintro e1 w1 ⟨rfl, rfl⟩)
        go_ret
        exact ⟨rfl, HW.out⟩

end Go.Proofs.YtofgadldopaniaaDoor
