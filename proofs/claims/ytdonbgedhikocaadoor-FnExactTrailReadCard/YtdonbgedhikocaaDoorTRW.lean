/- spec.TrailRead, walked. -/
import Derived.Test.YtdonbgedhikocaaDoorTRS
namespace Go.Proofs.YtdonbgedhikocaaDoor
open Go.RowKit

theorem cut10 (s : ByteArray) (w : World) (hs : s.size ≤ 1048576) : Calls Tryd.prog 9 #[.string s, .int .u8 10] w fun e w' => ∃ a cap, e = .returned (.slice a (cutB 10 s).length cap) ∧ w'.ownsRow w.heap.size 9 1 (.slice a (cutB 10 s).length cap) (cutB 10 s).length ((cutB 10 s).map .string) ∧ Below w.heap.size w w' := l1Cut_any s 10 w hs
theorem cut32 (s : ByteArray) (w : World) (hs : s.size ≤ 1048576) : Calls Tryd.prog 9 #[.string s, .int .u8 32] w fun e w' => ∃ a cap, e = .returned (.slice a (cutB 32 s).length cap) ∧ w'.ownsRow w.heap.size 9 1 (.slice a (cutB 32 s).length cap) (cutB 32 s).length ((cutB 32 s).map .string) ∧ Below w.heap.size w w' := l1Cut_any s 32 w hs
theorem cut47 (s : ByteArray) (w : World) (hs : s.size ≤ 1048576) : Calls Tryd.prog 9 #[.string s, .int .u8 47] w fun e w' => ∃ a cap, e = .returned (.slice a (cutB 47 s).length cap) ∧ w'.ownsRow w.heap.size 9 1 (.slice a (cutB 47 s).length cap) (cutB 47 s).length ((cutB 47 s).map .string) ∧ Below w.heap.size w w' := l1Cut_any s 47 w hs

theorem six_facts {b : ByteArray} {W w4 : World} {pa : Option Addr} {pc : Nat} (hh : b.data.toList.head? = some 47) (hO : w4.ownsRow W.heap.size 9 1 (.slice pa (cutB 47 b).length pc) (cutB 47 b).length ((cutB 47 b).map .string)) {P : List ByteArray} (hP : cutB 47 (b.extract 1 b.size) = P) :
    ∃ gp, pa = some ⟨gp, 0, none⟩ ∧ W.heap.size ≤ gp ∧ gp < w4.heap.size ∧ (P.length + 1 ≤ pc ∧ pc ≤ maxLen) ∧ ∀ (j : Nat) (h : j < P.length), w4.cell? ⟨gp, 1 + j, none⟩ = some (.string P[j]) := by
  subst hP
  obtain ⟨gp, h1, h2, h3, h4, h5⟩ := row_strs hO (cutB_pos _ _)
  have e := cutB_root hh
  refine ⟨gp, h1, h2, h3, by rw [e] at h4; exact h4, fun j hj => ?_⟩
  have := h5 (1 + j) (by rw [e]; simp; omega)
  rw [this]
  simp only [e, Nat.add_comm 1 j, List.getElem_cons_succ]

set_option maxRecDepth 100000 in
set_option maxHeartbeats 4000000 in
theorem specTrailRead_any (s : ByteArray) (hs : s.size ≤ 1048576) (w : World) :
    Calls Tryd.prog 4 #[.string s] w fun e w' => Below w.heap.size w w' ∧ ReadS s w e w' := by
  obtain ⟨iM, hiM', hzM, hsM, hbM⟩ := info_M
  have hiM := hide hiM'
  clear hiM'
  have HLs := hide (cutB_sizes 10 s)
  have hlp := cutB_pos 10 s
  have hll := cutB_len 10 s
  go_enter Tryd.func4, Tryd.ntmps4
  go_wp2_with fail
  refine (cut10 s _ hs).mono ?_
  rintro e w1 ⟨la, lc, rfl, hO1, hB1⟩
  obtain ⟨gl, rfl, hg1, hg2, _, hcl⟩ := row_strs hO1 hlp
  have HG1 : Hid (w.heap.size < gl ∧ gl < w1.heap.size) := ⟨by simp at hg1; omega, hg2⟩
  have HCL := hide hcl
  have HB1 : Hid (Below w.heap.size w w1) := ((Below.refl _ _).alloc (Nat.le_refl _) _).trans (hB1.mono (by simp))
  have HI0 : Hid (TsI s w 0 (.slice (some ⟨w.heap.size, 0, none⟩) 0 0) w1 [] []) := ⟨rfl, rfl, ownsRow_same (mnone (Blk.new w _ _) (Nat.le_refl _)) (fun g hg => by simp [Value.ownBlock] at hg; subst hg; exact hB1.block _ (by simp)), fun i h => by simp at h, fun i h => by simp at h⟩
  clear hO1 hB1 hcl hg1 hg2
  generalize hL : cutB 10 s = L at *
  go_wp2_with fail
  go_loopw [4, 6] (fun o i wr => ∃ (ov : Value) (k : Nat) (ms : List Mk) (xs : List Value), ov = o ∧ k ≤ 7 ∧ k + 1 ≤ L.length ∧ i = .int .i64 k ∧ Hid (TsI s w k ov wr ms xs) ∧ Hid (Below w.heap.size w wr) ∧ Hid (wr.heap[gl]? = w1.heap[gl]? ∧ ov.ownBlock ≠ some gl ∧ w1.heap.size ≤ wr.heap.size)) (fun _ i _ => 7 - (intOf i).toNat)
  case atStart => exact ⟨_, 0, [], [], rfl, by omega, by omega, rfl, HI0, HB1, rfl, by have := HG1.out; simp [Value.ownBlock]; omega, Nat.le_refl _⟩
  case round =>
    obtain ⟨ov, k, ms, xs, hov, hk7, hkL, rfl, HI, HB, HK⟩ := hrel
    subst hov
    clear HI0 HB1
    by_cases hlt : k + 1 < L.length ∧ k ≤ 6
    · obtain ⟨hlt1, hlt2⟩ := hlt
      have hk : k < L.length := by omega
      have ck : wr.cell? ⟨gl, k, none⟩ = some (.string L[k]) := (World.cell?_of_block (w := w1) HK.out.1).trans (HCL.out k hk)
      have hLk : L[k].size ≤ 1048576 := Nat.le_trans (HLs.out k hk) hs
      have HNo : Hid (markW pathS (cutB 32 L[k]) = none → ∀ (w' : World) a c, Below w.heap.size w w' → Below w.heap.size w w' ∧ ReadS s w (.returned (.tuple #[.slice a 0 c, .bool false])) w') := fun h w' a c hb => ⟨hb, by
        unfold ReadS
        subst hL
        rw [spec_no hk hlt1 hlt2 h]
        exact ⟨a, c, rfl⟩⟩
      have HYes : Hid (∀ (m : Mk), markW pathS (cutB 32 L[k]) = some m → ∀ (W w5 : World) (v' : Value) (pa : Option Addr) (pc : Nat), Below wr.heap.size wr W →
          (0 < m.path.length → ∃ b, pa = some ⟨b, 1, none⟩ ∧ wr.heap.size ≤ b ∧ b < W.heap.size ∧ ∀ (j : Nat) (h : j < m.path.length), W.cell? ⟨b, 1 + j, none⟩ = some (.string m.path[j])) → (m.path.length ≤ 1048576 ∧ ∀ (j : Nat) (h : j < m.path.length), m.path[j].size ≤ 1048576) →
          W.grownBy w5 ov.ownBlock → w5.ownsRow w.heap.size 31 2 v' (k + 1) (xs ++ [.slice pa m.path.length pc, .bool m.sub]) → (v'.ownBlock = ov.ownBlock ∨ v'.ownBlock = some W.heap.size) →
          TsI s w (k + 1) v' w5 (ms ++ [m]) (xs ++ [.slice pa m.path.length pc, .bool m.sub]) ∧ Below w.heap.size w w5 ∧ (w5.heap[gl]? = w1.heap[gl]? ∧ v'.ownBlock ≠ some gl ∧ w1.heap.size ≤ w5.heap.size)) := by
        intro m hm W w5 v' pa pc hW hp hsz hg hr hv
        subst hL
        have hgl : gl < wr.heap.size := by have := HG1.out; have := HK.out.2.2; omega
        have hws := HB.out.size
        have hsW := hW.size
        refine ⟨(HI.out.below hW).add hk hm (fun h0 => ?_) hsz hg hr hv, ?_, ?_, ?_, ?_⟩
        · obtain ⟨b, q1, q2, q3, q4⟩ := hp h0
          exact ⟨b, q1, by omega, q3, fun e => by have := row_lt HI.out.row b e; omega, q4⟩
        · exact (HB.out.trans (hW.mono hws)).grown hg (by omega) (fun q hq => row_aside HI.out.row q hq)
        · rw [hg.block gl (by omega) (fun e => HK.out.2.1 e.symm), hW.block gl hgl]; exact HK.out.1
        · intro e
          rcases hv with e2 | e2
          · exact HK.out.2.1 (e2.symm.trans e)
          · rw [e2] at e; simp at e; omega
        · have := HK.out.2.2; have := hg.size; omega
      have hk1 : (k : Int) + 1 < (L.length : Int) := by omega
      have hk2 : (k : Int) ≤ 6 := by omega
      have HWs := hide (cutB_sizes 32 L[k])
      have hwp := cutB_pos 32 L[k]
      have hwl := cutB_len 32 L[k]
      have HR : Hid (wr.ownsRow w.heap.size 31 2 ov k xs) := HI.out.row
      have hwz : w.heap.size ≤ wr.heap.size := HB.out.size
      clear HLs hlp hll HI HK HG1 HCL
      go_wp2_with fail
      refine (cut32 L[k] wr hLk).mono ?_
      rintro e w2 ⟨wa, wc, rfl, hO2, hB2⟩
      obtain ⟨gw, rfl, hgw1, hgw2, hcap, hcw⟩ := row_strs hO2 hwp
      have HB2 := hide hB2
      have hz2 : wr.heap.size ≤ w2.heap.size := hB2.size
      clear hO2 hB2 ck
      generalize hws : cutB 32 L[k] = ws at *
      by_cases hw2 : ws.length = 2
      · match ws, hw2 with
        | [a, b], _ =>
          have c0 : w2.cell? ⟨gw, 0, none⟩ = some (.string a) := hcw 0 (by simp)
          have c1 : w2.cell? ⟨gw, 1, none⟩ = some (.string b) := hcw 1 (by simp)
          have hbz : b.size ≤ 1048576 := Nat.le_trans (HWs.out 1 (by simp)) hLk
          clear hcw HWs hwp hwl hws
          have HW : Hid (∀ W, Below w2.heap.size w2 W → Below w.heap.size w W) := fun W h => HB.out.trans ((HB2.out.trans (h.mono HB2.out.size)).mono hwz)
          have HAl : Hid (∀ o, Below w2.heap.size w2 (w2.alloc o)) := fun o => (Below.refl _ _).alloc (Nat.le_refl _) o
          have d0 : ∀ o, (w2.alloc o).cell? ⟨gw, 0, none⟩ = some (.string a) := fun o => by rw [World.cell?_alloc_old _ _ _ (by show gw ≠ _; omega)]; exact c0
          have d1 : ∀ o, (w2.alloc o).cell? ⟨gw, 1, none⟩ = some (.string b) := fun o => by rw [World.cell?_alloc_old _ _ _ (by show gw ≠ _; omega)]; exact c1
          have HAl2 : Hid (∀ o o', Below w2.heap.size w2 ((w2.alloc o).alloc o')) := fun o o' => ((Below.refl _ _).alloc (Nat.le_refl _) o).alloc (by simp) o'
          have HRW : Hid (∀ W, Below wr.heap.size wr W → W.ownsRow w.heap.size 31 2 ov k xs) := fun W h => ownsRow_same HR.out (fun g hg => h.block g (row_lt HR.out g hg))
          by_cases ha : a ≠ wSub ∧ a ≠ wAt
          · obtain ⟨h2, h1⟩ := ha
            have hno : markW pathS [a, b] = none := by simp only [markW]; rw [if_neg h2, if_neg h1]
            have HN := hide (HNo.out hno)
            have e1 : ¬ a.toList = [97, 116] := fun e => h1 (toList_inj (e.trans (by rw [Lib.toList_data])))
            have e2 : ¬ a.toList = [115, 117, 98] := fun e => h2 (toList_inj (e.trans (by rw [Lib.toList_data])))
            have e3 : (a.toList == [97, 116]) = false := beq_eq_false_iff_ne.2 e1
            have e4 : (a.toList == [115, 117, 98]) = false := beq_eq_false_iff_ne.2 e2
            have e5 : (a.toList != [97, 116]) = true := by simp [e1]
            have e6 : (a.toList != [115, 117, 98]) = true := by simp [e2]
            clear h1 h2 hno HNo HYes
            go_wp2_with fail
            go_ret2
            exact HN.out _ _ _ (HW.out _ (HAl.out _))
          · have hva : a = wSub ∨ a = wAt := by
              by_cases h2 : a = wSub
              · exact .inl h2
              · exact .inr (Classical.byContradiction fun h => ha ⟨h2, h⟩)
            have hmw : markW pathS [a, b] = (pathS b).map (fun p => ⟨p, decide (a = wSub)⟩) := by
              simp only [markW]
              by_cases h2 : a = wSub
              · rw [if_pos h2]; simp [h2]
              · have h1 : a = wAt := Classical.byContradiction fun h => ha ⟨h2, h⟩
                rw [if_neg h2, if_pos h1]; simp [h2]
            have t1 : wAt.toList = [97, 116] := by rw [Lib.toList_data]
            have t2 : wSub.toList = [115, 117, 98] := by rw [Lib.toList_data]
            clear ha
            by_cases hb0 : b.size = 0
            · obtain rfl : b = ⟨#[]⟩ := by rw [← ofL_toL b, List.eq_nil_of_length_eq_zero (l := b.data.toList) (by simpa using hb0)]
              have HN := hide (HNo.out (by rw [hmw]; rfl))
              clear hmw HNo HYes hb0
              rcases hva with rfl | rfl
              all_goals
                go_wp2_with fail
                go_ret2
                exact HN.out _ _ _ (HW.out _ (HAl.out _))
            · have hbp : 0 < b.size := by omega
              have hbi : (0 : Int) < (b.size : Int) := by omega
              have hhd : b.data.toList.head? = some b[0] := by
                rw [List.head?_eq_getElem?, List.getElem?_eq_getElem (by simpa using hbp)]; rfl
              have n1 : ¬ b.toList = [] := fun e => by rw [Lib.toList_data] at e; rw [e] at hhd; simp at hhd
              have n2 : b.toList.isEmpty = false := by simpa using n1
              have n3 : (b.toList == []) = false := beq_eq_false_iff_ne.2 n1
              by_cases hb1 : b[0] = 47
              · have n4 : ((b[0].toNat : Int) != 47) = false := by rw [hb1]; rfl
                rw [hb1] at hhd
                by_cases hr : b = wRoot
                · subst hr
                  have HM5 : Hid (∀ sub, sub = decide (a = wSub) → markW pathS [a, wRoot] = some ⟨[], sub⟩) := by
                    rintro sub rfl
                    rw [hmw]; rfl
                  have t3 : wRoot.toList = [47] := by rw [Lib.toList_data]
                  clear hmw HNo hb0 hb1 hhd
                  rcases hva with rfl | rfl
                  · go_wp2_with (at_builtin; refine wpList_append_own_at _ rfl _ _ 22 rfl w.heap.size 31 iM (.agg #[.slice none 0 0, .bool false]) 2 32 Tryd.underlying22 hiM.out hzM hsM hbM rfl (by decide) ov k xs rfl (HRW.out _ (HB2.out.trans ((HAl2.out _ _).mono HB2.out.size))) ⟨w2.heap.size + 1, 0, none⟩ 1 1 [.slice none 0 0, .bool true] rfl (by simp) (cell_two_new _ _ _ _ (by simp)) (by simp [Value.oneCell']) (by unfold maxLen; omega) (by omega) (by simp; omega) ?_; intro v' w5 hown hgrow hnil hat; have HO5 := hide hown; have HG5 := hide hgrow; have HA5 := hide hat; clear hown hgrow hat hnil)
                    go_roundw
                    case rel =>
                      obtain ⟨hT, hBw, hK⟩ := HYes.out ⟨[], true⟩ (HM5.out _ (by simp)) _ w5 v' none 0 (HB2.out.trans ((HAl2.out _ _).mono HB2.out.size)) (fun h => by simp at h) ⟨by simp, fun j h => by simp at h⟩ HG5.out HO5.out HA5.out
                      exact ⟨v', k + 1, _, _, rfl, by omega, by omega, by go_num, hT, hBw, hK⟩
                    case measure => simp [intOf]; omega
                  · go_wp2_with (at_builtin; refine wpList_append_own_at _ rfl _ _ 22 rfl w.heap.size 31 iM (.agg #[.slice none 0 0, .bool false]) 2 32 Tryd.underlying22 hiM.out hzM hsM hbM rfl (by decide) ov k xs rfl (HRW.out _ (HB2.out.trans ((HAl2.out _ _).mono HB2.out.size))) ⟨w2.heap.size + 1, 0, none⟩ 1 1 [.slice none 0 0, .bool false] rfl (by simp) (cell_two_new _ _ _ _ (by simp)) (by simp [Value.oneCell']) (by unfold maxLen; omega) (by omega) (by simp; omega) ?_; intro v' w5 hown hgrow hnil hat; have HO5 := hide hown; have HG5 := hide hgrow; have HA5 := hide hat; clear hown hgrow hat hnil)
                    go_roundw
                    case rel =>
                      obtain ⟨hT, hBw, hK⟩ := HYes.out ⟨[], false⟩ (HM5.out _ (by simp)) _ w5 v' none 0 (HB2.out.trans ((HAl2.out _ _).mono HB2.out.size)) (fun h => by simp at h) ⟨by simp, fun j h => by simp at h⟩ HG5.out HO5.out HA5.out
                      exact ⟨v', k + 1, _, _, rfl, by omega, by omega, by go_num, hT, hBw, hK⟩
                    case measure => simp [intOf]; omega
                · obtain ⟨P, hP⟩ : ∃ P, cutB 47 (b.extract 1 b.size) = P := ⟨_, rfl⟩
                  have HM6 : Hid (∀ sub, sub = decide (a = wSub) → markW pathS [a, b] = some ⟨P, sub⟩) := by
                    rintro sub rfl
                    rw [hmw]; unfold pathS; rw [if_pos hhd, if_neg hr, hP]; rfl
                  have hPp : 0 < P.length := by rw [← hP]; exact cutB_pos _ _
                  have hPl : P.length ≤ 1048576 := by
                    have := cutB_len 47 (b.extract 1 b.size); rw [hP, ByteArray.size_extract] at this; omega
                  have HPs : Hid (∀ (j : Nat) (h : j < P.length), P[j].size ≤ 1048576) := by
                    subst hP
                    exact fun j h => Nat.le_trans (cutB_sizes _ _ j h) (extract_le b _ _ _ hbz)
                  have HLen : Hid ((cutB 47 b).length = P.length + 1) := by show _ = _; rw [cutB_root hhd, hP]; rfl
                  have n5 : ¬ b.toList = [47] := fun e => hr (toList_inj (e.trans (by rw [Lib.toList_data])))
                  have n6 : (b.toList == [47]) = false := beq_eq_false_iff_ne.2 n5
                  have n7 : (b.toList != [47]) = true := by simp [n5]
                  clear hmw HNo hb0 hb1 hr
                  rcases hva with rfl | rfl
                  · go_wp2_with fail
                    refine (cut47 b _ hbz).mono ?_
                    rintro e w4 ⟨pa4, pc4, rfl, hO4, hB4⟩
                    have HS6 := hide (six_facts hhd hO4 hP)
                    have HB4 := hide hB4
                    clear hO4 hB4
                    obtain ⟨gp, hpe, hg1, hg2, hcp, hcel⟩ := HS6.out
                    subst hpe
                    have HCel := hide hcel
                    rw [HLen.out]
                    have q := mark_cells HB4.out
                    have x0 := q.cell 0 _ rfl
                    have x1 := q.cell 1 _ rfl
                    have y0 := q.frozen 0
                    have y1 := q.frozen 1
                    have hz4 : w2.heap.size < w4.heap.size := q.lt
                    have HQ := hide q
                    clear hcel q HS6
                    have hi1 : (1 : Int) ≤ ((P.length + 1 : Nat) : Int) := by omega
                    have hi2 : ((P.length + 1 : Nat) : Int) ≤ (pc4 : Int) := by omega
                    have hi3 : (1 : Int) ≤ (pc4 : Int) := by omega
                    have hi4 : ¬ pc4 = 1 := by omega
                    have HX6 : Hid (∀ u o, Below wr.heap.size wr ((w4.setCell ⟨w2.heap.size, 0, none⟩ u).alloc o)) := fun u o => by
                      have h1 : Below wr.heap.size wr w4 := (HB2.out.trans ((HAl.out _).mono HB2.out.size)).trans (HB4.out.mono (by simp; omega))
                      exact (h1.setCell (p := ⟨w2.heap.size, 0, none⟩) hz2 u).alloc (by simp [World.setCell]; omega) o
                    have HX7 : Hid (∀ u o (j : Nat) (h : j < P.length), ((w4.setCell ⟨w2.heap.size, 0, none⟩ u).alloc o).cell? ⟨gp, 1 + j, none⟩ = some (.string P[j])) := fun u o j h => by
                      have hgp : w2.heap.size < gp := by simp at hg1; omega
                      rw [World.cell?_of_block (w := w4)]
                      · exact HCel.out j h
                      · rw [Below.heap_alloc _ _ _ (by simp [World.setCell]; omega), Below.heap_setCell _ _ _ _ (by show gp ≠ w2.heap.size; omega)]
                    go_wp2_with (at_builtin; refine wpList_append_own_at _ rfl _ _ 22 rfl w.heap.size 31 iM (.agg #[.slice none 0 0, .bool false]) 2 32 Tryd.underlying22 hiM.out hzM hsM hbM rfl (by decide) ov k xs rfl (HRW.out _ (HX6.out _ _)) ⟨w4.heap.size, 0, none⟩ 1 1 [.slice (some ⟨gp, 1, none⟩) P.length (pc4 - 1), .bool true] rfl (by simp) (cell_two_new _ _ _ _ (by simp [World.setCell])) (by simp [Value.oneCell']) (by unfold maxLen; omega) (by omega) (by simp [World.setCell]; omega) ?_; intro v' w5 hown hgrow hnil hat; have HO5 := hide hown; have HG5 := hide hgrow; have HA5 := hide hat; clear hown hgrow hat hnil)
                    go_roundw
                    case rel =>
                      obtain ⟨hT, hBw, hK⟩ := HYes.out ⟨P, true⟩ (HM6.out _ (by simp)) _ w5 v' (some ⟨gp, 1, none⟩) (pc4 - 1) (HX6.out _ _) (fun _ => ⟨gp, rfl, by simp at hg1; omega, by simp [World.setCell]; omega, HX7.out _ _⟩) ⟨hPl, HPs.out⟩ HG5.out HO5.out HA5.out
                      exact ⟨v', k + 1, _, _, rfl, by omega, by omega, by go_num, hT, hBw, hK⟩
                    case measure => simp [intOf]; omega
                  · go_wp2_with fail
                    refine (cut47 b _ hbz).mono ?_
                    rintro e w4 ⟨pa4, pc4, rfl, hO4, hB4⟩
                    have HS6 := hide (six_facts hhd hO4 hP)
                    have HB4 := hide hB4
                    clear hO4 hB4
                    obtain ⟨gp, hpe, hg1, hg2, hcp, hcel⟩ := HS6.out
                    subst hpe
                    have HCel := hide hcel
                    rw [HLen.out]
                    have q := mark_cells HB4.out
                    have x0 := q.cell 0 _ rfl
                    have x1 := q.cell 1 _ rfl
                    have y0 := q.frozen 0
                    have y1 := q.frozen 1
                    have hz4 : w2.heap.size < w4.heap.size := q.lt
                    have HQ := hide q
                    clear hcel q HS6
                    have hi1 : (1 : Int) ≤ ((P.length + 1 : Nat) : Int) := by omega
                    have hi2 : ((P.length + 1 : Nat) : Int) ≤ (pc4 : Int) := by omega
                    have hi3 : (1 : Int) ≤ (pc4 : Int) := by omega
                    have hi4 : ¬ pc4 = 1 := by omega
                    have HX6 : Hid (∀ u o, Below wr.heap.size wr ((w4.setCell ⟨w2.heap.size, 0, none⟩ u).alloc o)) := fun u o => by
                      have h1 : Below wr.heap.size wr w4 := (HB2.out.trans ((HAl.out _).mono HB2.out.size)).trans (HB4.out.mono (by simp; omega))
                      exact (h1.setCell (p := ⟨w2.heap.size, 0, none⟩) hz2 u).alloc (by simp [World.setCell]; omega) o
                    have HX7 : Hid (∀ u o (j : Nat) (h : j < P.length), ((w4.setCell ⟨w2.heap.size, 0, none⟩ u).alloc o).cell? ⟨gp, 1 + j, none⟩ = some (.string P[j])) := fun u o j h => by
                      have hgp : w2.heap.size < gp := by simp at hg1; omega
                      rw [World.cell?_of_block (w := w4)]
                      · exact HCel.out j h
                      · rw [Below.heap_alloc _ _ _ (by simp [World.setCell]; omega), Below.heap_setCell _ _ _ _ (by show gp ≠ w2.heap.size; omega)]
                    go_wp2_with (at_builtin; refine wpList_append_own_at _ rfl _ _ 22 rfl w.heap.size 31 iM (.agg #[.slice none 0 0, .bool false]) 2 32 Tryd.underlying22 hiM.out hzM hsM hbM rfl (by decide) ov k xs rfl (HRW.out _ (HX6.out _ _)) ⟨w4.heap.size, 0, none⟩ 1 1 [.slice (some ⟨gp, 1, none⟩) P.length (pc4 - 1), .bool false] rfl (by simp) (cell_two_new _ _ _ _ (by simp [World.setCell])) (by simp [Value.oneCell']) (by unfold maxLen; omega) (by omega) (by simp [World.setCell]; omega) ?_; intro v' w5 hown hgrow hnil hat; have HO5 := hide hown; have HG5 := hide hgrow; have HA5 := hide hat; clear hown hgrow hat hnil)
                    go_roundw
                    case rel =>
                      obtain ⟨hT, hBw, hK⟩ := HYes.out ⟨P, false⟩ (HM6.out _ (by simp)) _ w5 v' (some ⟨gp, 1, none⟩) (pc4 - 1) (HX6.out _ _) (fun _ => ⟨gp, rfl, by simp at hg1; omega, by simp [World.setCell]; omega, HX7.out _ _⟩) ⟨hPl, HPs.out⟩ HG5.out HO5.out HA5.out
                      exact ⟨v', k + 1, _, _, rfl, by omega, by omega, by go_num, hT, hBw, hK⟩
                    case measure => simp [intOf]; omega
              · have n4 : ((b[0].toNat : Int) != 47) = true := by
                  simp only [bne_iff_ne, ne_eq]
                  intro e
                  exact hb1 (UInt8.toNat_inj.1 (by show _ = 47; omega))
                have HN := hide (HNo.out (by rw [hmw]; unfold pathS; rw [if_neg (by rw [hhd]; simpa using hb1)]; rfl))
                clear hmw HNo HYes hb0 hb1 hhd
                rcases hva with rfl | rfl
                all_goals
                  go_wp2_with fail
                  go_ret2
                  exact HN.out _ _ _ (HW.out _ (HAl.out _))
      · have hn2 : ((ws.length : Int) != 2) = true := by simp; omega
        have hno : markW pathS ws = none := by
          match ws, hw2 with
          | [], _ => rfl
          | [a], _ => rfl
          | [a, b], h => simp at h
          | a :: b :: c :: r, _ => rfl
        have HN := hide (HNo.out hno)
        clear hw2 hno HNo HYes hcw HWs
        go_wp2_with fail
        go_ret2
        exact HN.out _ _ _ ((HB.out.trans (HB2.out.mono hwz)).alloc (by omega) _)
    · have HV : Hid (specV s = if trailB ms = true ∧ showT ms = s then some ms else none) := by
        show _ = _
        unfold specV
        rw [spec_lines (k := k) (by rw [hL]; omega) hk7 (by rw [hL]; exact hkL), HI.out.read]
      have HOk := hide (specTrailOk_any ms ov wr w.heap.size wr.heap.size HI.out.mks (Nat.le_refl _))
      have HSh : Hid (∀ W, Below wr.heap.size wr W → Calls Tryd.prog 11 #[ov] W fun e w' => e = .returned (.string (showV ms)) ∧ Below W.heap.size W w') := fun W hW => specTrailShow_any ms ov W w.heap.size W.heap.size (HI.out.below hW).mks (Nat.le_refl _)
      have HCp : Hid (∀ W, Below wr.heap.size wr W → Calls Tryd.prog 12 #[ov] W fun e w' => ∃ v' xs bs, e = .returned v' ∧ MAcc w' W.heap.size v' ms xs bs ∧ Below W.heap.size W w') := fun W hW => l11Copy_any ms ov W w.heap.size W.heap.size (HI.out.below hW).mks (Nat.le_refl _) (by have := HI.out.len; omega) (fun i hi => ((HI.out.below hW).sizes i hi).1)
      have hguard : (¬ ((k : Int) + 1 < (L.length : Int))) ∨ ((k : Int) + 1 < (L.length : Int) ∧ ¬ ((k : Int) ≤ 6)) := by omega
      clear HLs hlp hll
      cases hok : trailB ms with
      | false =>
        rw [hok] at HOk
        have HN : Hid (specV s = none) := by show _ = _; rw [HV.out, if_neg (by rw [hok]; simp)]
        clear HV
        rcases hguard with hg | ⟨hg, hg'⟩
        all_goals
          go_wp2_with (go_at_call 10; refine HOk.out.mono ?_; rintro e w2 ⟨rfl, hB2⟩; have HB2 := hide hB2; clear hB2)
          go_ret2
          refine ⟨(HB.out.trans (HB2.out.mono HB.out.size)).alloc (Nat.le_trans HB.out.size HB2.out.size) _, ?_⟩
          unfold ReadS
          rw [HN.out]
          exact ⟨_, _, rfl⟩
      | true =>
        rw [hok] at HOk
        have hsv : showV ms = showT ms := by unfold showV; rw [if_pos hok]
        by_cases hsh : showT ms = s
        · have HN : Hid (specV s = some ms) := by show _ = _; rw [HV.out, if_pos ⟨hok, hsh⟩]
          rw [hsv, hsh] at HSh
          clear HV hsv hsh
          have hss : (s.toList == s.toList) = true := by simp
          rcases hguard with hg | ⟨hg, hg'⟩
          all_goals
            go_wp2_with (first
              | (go_at_call 10; refine HOk.out.mono ?_; rintro e w2 ⟨rfl, hB2⟩; have HB2 := hide hB2; clear hB2)
              | (go_at_call 11; refine (HSh.out _ HB2.out).mono ?_; rintro e w3 ⟨rfl, hB3⟩; have HB3 : Hid (Below wr.heap.size wr w3) := HB2.out.trans (hB3.mono HB2.out.size); clear hB3)
              | (go_at_call 12; refine (HCp.out _ HB3.out).mono ?_; rintro e w4 ⟨v', xs', bs', rfl, hM4, hB4⟩; have HM4 := hide hM4; have HB4 : Hid (Below w.heap.size w w4 ∧ w.heap.size ≤ w3.heap.size) := ⟨HB.out.trans ((HB3.out.trans (hB4.mono HB3.out.size)).mono HB.out.size), Nat.le_trans HB.out.size HB3.out.size⟩; clear hM4 hB4))
            go_ret2
            refine ⟨HB4.out.1, ?_⟩
            unfold ReadS
            rw [HN.out]
            obtain ⟨bk, hO⟩ := HM4.out.own
            exact ⟨_, rfl, hO.mks.wide HB4.out.2 (Nat.le_refl _)⟩
        · have HN : Hid (specV s = none) := by show _ = _; rw [HV.out, if_neg (fun h => hsh h.2)]
          rw [hsv] at HSh
          have hne := str_ne hsh
          clear HV hsv hsh
          generalize showT ms = st at *
          rcases hguard with hg | ⟨hg, hg'⟩
          all_goals
            go_wp2_with (first
              | (go_at_call 10; refine HOk.out.mono ?_; rintro e w2 ⟨rfl, hB2⟩; have HB2 := hide hB2; clear hB2)
              | (go_at_call 11; refine (HSh.out _ HB2.out).mono ?_; rintro e w3 ⟨rfl, hB3⟩; have HB3 : Hid (Below wr.heap.size wr w3) := HB2.out.trans (hB3.mono HB2.out.size); clear hB3))
            go_ret2
            refine ⟨(HB.out.trans (HB3.out.mono HB.out.size)).alloc (Nat.le_trans HB.out.size HB3.out.size) _, ?_⟩
            unfold ReadS
            rw [HN.out]
            exact ⟨_, _, rfl⟩

end Go.Proofs.YtdonbgedhikocaaDoor
