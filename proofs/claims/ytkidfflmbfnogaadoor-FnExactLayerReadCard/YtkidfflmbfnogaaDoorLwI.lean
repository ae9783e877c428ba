/- lineWords: the iterator's contract. -/
import Derived.Test.YtkidfflmbfnogaaDoorLw
namespace Go.Proofs.YtkidfflmbfnogaaDoor
open Go.RowKit Go.Shelf
attribute [local go_sem] Oper.semAt_some

set_option maxRecDepth 100000 in
set_option maxHeartbeats 4000000 in
theorem lw_seq (s : ByteArray) (hs : s.size ≤ 1048576) (Bt : Nat) (w : World) (hc : w.cell? ⟨Bt, 0, none⟩ = some (.string s)) :
    SeqC Tryd.prog 21 #[.pointer (some ⟨Bt, 0, none⟩)] Yw.encs (fun k => k = Bt) (fun pre x C W => WdsAt x C W ∧ (pre ++ [x]).map Yw.key <+: tellsB s) (fun xs => xs.map Yw.key = tellsB s) (fun pre => pre.map Yw.key <+: tellsB s) w := by
  intro n l J Jx C W hW hD hC hJ hJx hY h0
  have hBw : Bt < w.heap.size := World.block_lt_of_cell? _ _ hc
  have hBt : Bt < W.heap.size := Nat.lt_of_lt_of_le hBw hW.size
  have htext : W.cell? ⟨Bt, 0, none⟩ = some (.string s) := (hW.cell (p := ⟨Bt, 0, none⟩) hBw).trans hc
  obtain ⟨iS, hiS', hzS, hsS, hbS⟩ := info_S
  have hiS := hide hiS'
  clear hiS'
  have HJ := hide hJ
  have HJx := hide hJx
  have HY := hide hY
  have HST : Hid (∀ W0, W.alloc (.stringIter s 0) = W0 → LwSt s Bt W J (.slice none 0 0) 0 0 [] W0 [] C (W.heap.size + 1) 0 []) := by
    rintro W0 rfl
    refine ⟨lwAt_zero s, World.alloc_heap_new _ _, World.ownsRow_nil _ _ _ _, hJ _ _ _ _ h0 (Kept.of_new ((Below.refl _ _).alloc (Nat.le_refl _) _)), fun k hk => ?_, by omega, by simp, rfl, fun i h => by simp at h, ?_⟩
    · have := hC k hk
      exact ⟨by omega, by omega, fun e => hD k e hk⟩
    · rw [World.cell?_alloc_old _ _ _ (by show Bt ≠ _; omega)]; exact htext
  clear hJ hJx hY h0 hD hC hc hW hBw
  show CallsIn Fence.wide n Tryd.prog 21 #[.func (.yield l) #[] #[], .pointer (some ⟨Bt, 0, none⟩)] W _
  refine callsIn_of_wp Tryd.func21 rfl trivial ?_ rfl
  simp only [Tryd.ntmps21, List.size_toArray, List.length_cons, List.length_nil, Nat.reduceAdd, Nat.reduceSub, Array.replicate_succ, Array.replicate_zero, List.push_toArray, List.append_toArray, List.nil_append, List.cons_append]
  gi_wp2
  gi_loopw [3, 4] (fun o f wr => ∃ (oa : Option Addr) (oc fr pos : Nat) (ws : List ByteArray) (pre : List Yw) (C1 : Nat → Prop) (base lb : Nat) (ls : List ByteArray), o = .slice oa ws.length oc ∧ f = .int .i64 fr ∧ wr.iterPos W.heap.size = pos ∧ Hid (LwSt s Bt W J (.slice oa ws.length oc) fr pos ws wr pre C1 base lb ls))
    (fun _ _ wr => s.size - wr.iterPos W.heap.size)
  case atStart =>
    have h1 := HST.out _ rfl
    exact ⟨none, 0, 0, 0, [], [], C, _, 0, [], rfl, rfl, World.iterPos_iter W s 0, h1⟩
  case round =>
    obtain ⟨oa, oc, fr, pos, ws, pre, C1, base, lb, ls, rfl, rfl, hpos, HS⟩ := hrel
    clear HST htext
    have hin : pos ≤ s.size := HS.out.at_.inside
    have hfp : fr ≤ pos := HS.out.at_.words.2.1
    have hwl : ws.length ≤ pos := cutIn_len HS.out.at_.words hin
    by_cases hlt : pos < s.size
    · have hnx := Lib.run_next_any_at (P := Tryd.prog) wr W.heap.size s pos (hk := HS.out.iter) (h := hlt)
      have HM : Hid (∀ k, k < wr.heap.size → (k < W.heap.size ∨ C1 k) → k ≠ W.heap.size) := fun k _ h => by
        rcases h with h | h
        · omega
        · exact (HS.out.cs k h).2.1
      have HM2 : Hid (∀ A : World, ∀ k, k < A.heap.size → (k < W.heap.size ∨ C1 k) → k < base) := fun A k _ h => by
        rcases h with h | h
        · have := HS.out.base1; omega
        · exact (HS.out.cs k h).1
      by_cases h1 : s[pos] = 32
      · have hd : Utf8.decode s pos = (32, 1) := by rw [decode_low s pos hlt (by rw [h1]; decide), h1]; rfl
        rw [hd] at hnx
        have HA : Hid (LwAt s (pos + 1) lb (pos + 1) ls (ws ++ [s.extract fr pos])) := lwAt_space HS.out.at_ hlt h1
        clear h1 HM HM2
        obtain ⟨W2, hW2⟩ : ∃ W2, wr.iterAt W.heap.size s (pos + 1) = W2 := ⟨_, rfl⟩
        have HI : Hid (W2.heap[W.heap.size]? = some (.stringIter s (pos + 1))) := by subst hW2; exact Lib.iterAt_heap _ _ _ _ _ HS.out.iter
        have HK : Hid (Kept (fun k => k ≠ W.heap.size) wr W2) := by subst hW2; exact kept_iterAt _ _ _ _ (fun h => h rfl)
        rw [hW2] at hnx
        clear hW2 hd
        have HR : Hid (W2.ownsRow base 9 1 (.slice oa ws.length oc) ws.length (ws.map .string)) := row_kept HS.out.row (HK.out.mono fun k _ h => by have := HS.out.base1; omega)
        have hT : W2.cell? ⟨Bt, 0, none⟩ = some (.string s) := (HK.out.cell (p := ⟨Bt, 0, none⟩) (by have := HS.out.base1; have := HS.out.base2; show Bt < _; omega) (by show Bt ≠ _; omega)).trans HS.out.text
        have hbs : base ≤ W2.heap.size := Nat.le_trans HS.out.base2 HK.out.size
        gi_wp2_with (gi_at_builtin; refine wpListIn_append_own _ rfl _ _ 28 rfl base 9 iS (.string ⟨#[]⟩) 1 16 Tryd.underlying28 hiS.out hzS hsS hbS rfl (by decide) _ ws.length (ws.map .string) rfl (HR.out.alloc _) ⟨W2.heap.size, 0, none⟩ 1 1 [.string (s.extract fr pos)] rfl (by simp) (cell_one_new _ _ _) (by simp [Value.oneCell']) (by unfold maxLen; omega) (by omega) (by simp; omega) ?_; intro v' w3 hown hgrow hnil; have HO3 : Hid (w3.ownsRow base 9 1 v' (ws ++ [s.extract fr pos]).length ((ws ++ [s.extract fr pos]).map .string)) := row_snoc hown; have HK3 : Hid (Kept (fun k => k < base) W2 w3) := app_kept HR.out hgrow; clear hown hgrow hnil)
        have hi3 : Hid (w3.heap[W.heap.size]? = some (.stringIter s (pos + 1))) := (HK3.out.block _ (by have := HS.out.base1; omega) HS.out.base1).trans HI.out
        go_roundw
        case rel =>
          obtain ⟨a3, c3, rfl⟩ := ownsRow_form HO3.out
          refine ⟨a3, c3, pos + 1, pos + 1, ws ++ [s.extract fr pos], pre, C1, base, lb, ls, rfl, by go_num, by simp [World.iterPos, hi3.out], ?_⟩
          exact HS.out.kept HJ.out hBt ((HK.out.mono fun k _ h => h.2).trans (HK3.out.mono fun k _ h => h.1)) HA.out hi3.out HO3.out HS.out.key (sizes_snoc HS.out.sizes (extract_le _ _ _ _ hs))
        case measure => rw [hpos, show w3.iterPos W.heap.size = pos + 1 from by simp [World.iterPos, hi3.out]]; omega
      · by_cases h2 : s[pos] = 10
        · have hd : Utf8.decode s pos = (10, 1) := by rw [decode_low s pos hlt (by rw [h2]; decide), h2]; rfl
          rw [hd] at hnx
          have HA := hide (lwAt_line HS.out.at_ hlt h2)
          have HPre : Hid (∀ g c, (pre ++ [(⟨g, c, ws ++ [s.extract fr pos], true⟩ : Yw)]).map Yw.key <+: tellsB s) := fun g c => by
            have h5 := tells_pre HA.out.1
            rw [List.map_append, List.map_singleton, HA.out.2] at h5
            rw [List.map_append, HS.out.key, List.map_singleton]
            exact h5
          clear h1 h2
          obtain ⟨W2, hW2⟩ : ∃ W2, wr.iterAt W.heap.size s (pos + 1) = W2 := ⟨_, rfl⟩
          have HI : Hid (W2.heap[W.heap.size]? = some (.stringIter s (pos + 1))) := by subst hW2; exact Lib.iterAt_heap _ _ _ _ _ HS.out.iter
          have HK : Hid (Kept (fun k => k ≠ W.heap.size) wr W2) := by subst hW2; exact kept_iterAt _ _ _ _ (fun h => h rfl)
          rw [hW2] at hnx
          clear hW2 hd
          have HR : Hid (W2.ownsRow base 9 1 (.slice oa ws.length oc) ws.length (ws.map .string)) := row_kept HS.out.row (HK.out.mono fun k _ h => by have := HS.out.base1; omega)
          have hT : W2.cell? ⟨Bt, 0, none⟩ = some (.string s) := (HK.out.cell (p := ⟨Bt, 0, none⟩) (by have := HS.out.base1; have := HS.out.base2; show Bt < _; omega) (by show Bt ≠ _; omega)).trans HS.out.text
          have hbs : base ≤ W2.heap.size := Nat.le_trans HS.out.base2 HK.out.size
          gi_wp2_with (gi_at_builtin; refine wpListIn_append_own _ rfl _ _ 28 rfl base 9 iS (.string ⟨#[]⟩) 1 16 Tryd.underlying28 hiS.out hzS hsS hbS rfl (by decide) _ ws.length (ws.map .string) rfl (HR.out.alloc _) ⟨W2.heap.size, 0, none⟩ 1 1 [.string (s.extract fr pos)] rfl (by simp) (cell_one_new _ _ _) (by simp [Value.oneCell']) (by unfold maxLen; omega) (by omega) (by simp; omega) ?_; intro v' w3 hown hgrow hnil; have HO3 : Hid (w3.ownsRow base 9 1 v' (ws ++ [s.extract fr pos]).length ((ws ++ [s.extract fr pos]).map .string)) := row_snoc hown; have HK3 : Hid (Kept (fun k => k < base) W2 w3) := app_kept HR.out hgrow; clear hown hgrow hnil; obtain ⟨g3, c3, hv3, hg3, _⟩ := ownsRow_at HO3.out (by simp); subst hv3; obtain ⟨fn, tmps, assign, body, hy, hR⟩ := yield_any (n - 1) (HY.out pre ⟨g3, c3, ws ++ [s.extract fr pos], true⟩ C1 w3 (HJ.out _ _ _ _ (HJ.out _ _ _ _ HS.out.inv (HK.out.mono HM.out)) (HK3.out.mono (HM2.out _))) ⟨wdsAt_row HO3.out (fun k hk => (HS.out.cs k hk).1) (by simp) (by simp; omega) (sizes_snoc HS.out.sizes (extract_le _ _ _ _ hs)), HPre.out _ _⟩ (fun k hk => Nat.lt_of_lt_of_le (HS.out.cs k hk).1 (Nat.le_trans hbs HK3.out.size))); simp only [Yw.encs, List.length_append, List.length_cons, List.length_nil, Nat.zero_add] at hy; have HR3 := hide hR; clear hR; simp only [List.length_append, List.length_cons, List.length_nil, Nat.zero_add])
          refine ⟨wide_room _, HR3.out.mono ?_⟩
          rintro e W' (⟨rfl, C2, hj, hk, hc1, hc2⟩ | ⟨rfl, C2, hj, _, _, _⟩)
          · have HJ' := hide hj
            have HK' := hide hk
            have HC' := hide (And.intro hc1 hc2)
            clear hj hk hc1 hc2
            have HI' : Hid (W'.heap[W.heap.size]? = some (.stringIter s (pos + 1))) := (HK'.out.block _ (by have := HS.out.base1; have := HK3.out.size; omega) (fun h => (HS.out.cs _ h).2.1 rfl)).trans ((HK3.out.block _ (by have := HS.out.base1; omega) HS.out.base1).trans HI.out)
            have HT' : Hid (W'.cell? ⟨Bt, 0, none⟩ = some (.string s)) := (HK'.out.cell (p := ⟨Bt, 0, none⟩) (by have := HS.out.base1; have := HK3.out.size; show Bt < _; omega) (fun h => (HS.out.cs _ h).2.2 rfl)).trans ((HK3.out.cell (p := ⟨Bt, 0, none⟩) (by have := HS.out.base1; show Bt < _; omega) (by have := HS.out.base1; show Bt < _; omega)).trans hT)
            gi_wp2
            go_roundw
            case rel =>
              have hsz := HK'.out.size
              have hsz3 := HK3.out.size
              have hb1 := HS.out.base1
              refine ⟨none, 0, pos + 1, pos + 1, [], pre ++ [⟨g3, c3, ws ++ [s.extract fr pos], true⟩], C2, W'.heap.size, pos + 1, ls ++ [s.extract lb pos], rfl, by go_num, by simp [World.iterPos, HI'.out], ?_⟩
              refine ⟨HA.out.1, HI'.out, World.ownsRow_nil _ _ _ _, HJ'.out, fun k hk => ⟨HC'.out.2 k hk, ?_⟩, by omega, Nat.le_refl _, ?_, fun i h => by simp at h, HT'.out⟩
              · rcases HC'.out.1 k hk with h | h
                · exact (HS.out.cs k h).2
                · exact ⟨by omega, by omega⟩
              · rw [List.map_append, List.map_append, HS.out.key, List.map_singleton, List.map_singleton, HA.out.2]; rfl
            case measure => rw [hpos, show W'.iterPos W.heap.size = pos + 1 from by simp [World.iterPos, HI'.out]]; omega
          · have HJ' := hide hj
            clear hj
            gi_wp2
            refine bodyPost_ret (results_none rfl _ _ _) rfl ?_
            refine ⟨⟨_, rfl⟩, .inr ⟨_, C2, ?_, HJ'.out⟩⟩
            have h5 := tells_pre HA.out.1
            rw [List.map_append, HS.out.key, List.map_singleton]
            rw [List.map_append, List.map_singleton, HA.out.2] at h5
            exact h5
        · obtain ⟨ha, n1, n2, n3⟩ := lwAt_other HS.out.at_ hlt h1 h2
          have HA := hide ha
          clear ha h1 h2 HM HM2
          obtain ⟨W2, hW2⟩ : ∃ W2, wr.iterAt W.heap.size s (pos + (Utf8.decode s pos).2) = W2 := ⟨_, rfl⟩
          have HI : Hid (W2.heap[W.heap.size]? = some (.stringIter s (pos + (Utf8.decode s pos).2))) := by subst hW2; exact Lib.iterAt_heap _ _ _ _ _ HS.out.iter
          have HK : Hid (Kept (fun k => k ≠ W.heap.size) wr W2) := by subst hW2; exact kept_iterAt _ _ _ _ (fun h => h rfl)
          rw [hW2] at hnx
          clear hW2
          generalize (Utf8.decode s pos).1 = d at *
          generalize (Utf8.decode s pos).2 = m at *
          have e1 : ((d : Int) != 32) = true := by simpa using n1
          have e2 : ((d : Int) != 10) = true := by simpa using n2
          clear n1 n2
          gi_wp2
          go_roundw
          case rel =>
            refine ⟨oa, oc, fr, pos + m, ws, pre, C1, base, lb, ls, rfl, rfl, by simp [World.iterPos, HI.out], ?_⟩
            exact HS.out.kept HJ.out hBt (HK.out.mono fun k _ h => h.2) HA.out HI.out (row_kept HS.out.row (HK.out.mono fun k _ h => by have := HS.out.base1; omega)) HS.out.key HS.out.sizes
          case measure => rw [hpos, show W2.iterPos W.heap.size = pos + m from by simp [World.iterPos, HI.out]]; omega
    · have hnx := Lib.run_next_end_at (P := Tryd.prog) wr W.heap.size s pos (hk := HS.out.iter) (h := hlt)
      obtain rfl : pos = s.size := by omega
      have HM2 : Hid (∀ A : World, ∀ k, k < A.heap.size → (k < W.heap.size ∨ C1 k) → k < base) := fun A k _ h => by
        rcases h with h | h
        · have := HS.out.base1; omega
        · exact (HS.out.cs k h).1
      have HE := hide (tells_end HS.out.at_)
      have HR : Hid (wr.ownsRow base 9 1 (.slice oa ws.length oc) ws.length (ws.map .string)) := HS.out.row
      have hT : wr.cell? ⟨Bt, 0, none⟩ = some (.string s) := HS.out.text
      have hbs : base ≤ wr.heap.size := HS.out.base2
      by_cases hc : fr < s.size ∨ 0 < ws.length
      · have HE2 : Hid (∀ y : Yw, y.key = (ws ++ [s.extract fr s.size], false) → (pre ++ [y]).map Yw.key = tellsB s) := fun y hy => by
          rw [HE.out, if_pos hc, List.map_append, HS.out.key, List.map_singleton, hy]
        have HPre : Hid (∀ g c, (pre ++ [(⟨g, c, ws ++ [s.extract fr s.size], false⟩ : Yw)]).map Yw.key <+: tellsB s) := fun g c => by rw [HE2.out _ rfl]; exact List.prefix_refl _
        clear HE
        by_cases h1 : fr < s.size
        · clear hc
          gi_wp2_with (gi_at_builtin; refine wpListIn_append_own _ rfl _ _ 28 rfl base 9 iS (.string ⟨#[]⟩) 1 16 Tryd.underlying28 hiS.out hzS hsS hbS rfl (by decide) _ ws.length (ws.map .string) rfl (HR.out.alloc _) ⟨wr.heap.size, 0, none⟩ 1 1 [.string (s.extract fr s.size)] rfl (by simp) (cell_one_new _ _ _) (by simp [Value.oneCell']) (by unfold maxLen; omega) (by omega) (by simp; omega) ?_; intro v' w3 hown hgrow hnil; have HO3 : Hid (w3.ownsRow base 9 1 v' (ws ++ [s.extract fr s.size]).length ((ws ++ [s.extract fr s.size]).map .string)) := row_snoc hown; have HK3 : Hid (Kept (fun k => k < base) wr w3) := app_kept HR.out hgrow; clear hown hgrow hnil; obtain ⟨g3, c3, hv3, hg3, _⟩ := ownsRow_at HO3.out (by simp); subst hv3; obtain ⟨fn, tmps, assign, body, hy, hR⟩ := yield_any (n - 1) (HY.out pre ⟨g3, c3, ws ++ [s.extract fr s.size], false⟩ C1 w3 (HJ.out _ _ _ _ HS.out.inv (HK3.out.mono (HM2.out _))) ⟨wdsAt_row HO3.out (fun k hk => (HS.out.cs k hk).1) (by simp) (by simp; omega) (sizes_snoc HS.out.sizes (extract_le _ _ _ _ hs)), HPre.out _ _⟩ (fun k hk => Nat.lt_of_lt_of_le (HS.out.cs k hk).1 (Nat.le_trans hbs HK3.out.size))); simp only [Yw.encs, List.length_append, List.length_cons, List.length_nil, Nat.zero_add] at hy; have HR3 := hide hR; clear hR; simp only [List.length_append, List.length_cons, List.length_nil, Nat.zero_add])
          refine ⟨wide_room _, HR3.out.mono ?_⟩
          rintro e W' (⟨rfl, C2, hj, _, _, _⟩ | ⟨rfl, C2, hj, _, _, _⟩)
          all_goals
            have HJ' := hide hj
            clear hj
            gi_wp2
            go_end0
          · exact ⟨⟨_, rfl⟩, .inl ⟨_, C2, HE2.out _ rfl, HJ'.out⟩⟩
          · exact ⟨⟨_, rfl⟩, .inr ⟨_, C2, by rw [HE2.out _ rfl]; exact List.prefix_refl _, HJ'.out⟩⟩
        · have h2 : 0 < ws.length := by omega
          clear hc
          gi_wp2_with (gi_at_builtin; refine wpListIn_append_own _ rfl _ _ 28 rfl base 9 iS (.string ⟨#[]⟩) 1 16 Tryd.underlying28 hiS.out hzS hsS hbS rfl (by decide) _ ws.length (ws.map .string) rfl (HR.out.alloc _) ⟨wr.heap.size, 0, none⟩ 1 1 [.string (s.extract fr s.size)] rfl (by simp) (cell_one_new _ _ _) (by simp [Value.oneCell']) (by unfold maxLen; omega) (by omega) (by simp; omega) ?_; intro v' w3 hown hgrow hnil; have HO3 : Hid (w3.ownsRow base 9 1 v' (ws ++ [s.extract fr s.size]).length ((ws ++ [s.extract fr s.size]).map .string)) := row_snoc hown; have HK3 : Hid (Kept (fun k => k < base) wr w3) := app_kept HR.out hgrow; clear hown hgrow hnil; obtain ⟨g3, c3, hv3, hg3, _⟩ := ownsRow_at HO3.out (by simp); subst hv3; obtain ⟨fn, tmps, assign, body, hy, hR⟩ := yield_any (n - 1) (HY.out pre ⟨g3, c3, ws ++ [s.extract fr s.size], false⟩ C1 w3 (HJ.out _ _ _ _ HS.out.inv (HK3.out.mono (HM2.out _))) ⟨wdsAt_row HO3.out (fun k hk => (HS.out.cs k hk).1) (by simp) (by simp; omega) (sizes_snoc HS.out.sizes (extract_le _ _ _ _ hs)), HPre.out _ _⟩ (fun k hk => Nat.lt_of_lt_of_le (HS.out.cs k hk).1 (Nat.le_trans hbs HK3.out.size))); simp only [Yw.encs, List.length_append, List.length_cons, List.length_nil, Nat.zero_add] at hy; have HR3 := hide hR; clear hR; simp only [List.length_append, List.length_cons, List.length_nil, Nat.zero_add])
          refine ⟨wide_room _, HR3.out.mono ?_⟩
          rintro e W' (⟨rfl, C2, hj, _, _, _⟩ | ⟨rfl, C2, hj, _, _, _⟩)
          all_goals
            have HJ' := hide hj
            clear hj
            gi_wp2
            go_end0
          · exact ⟨⟨_, rfl⟩, .inl ⟨_, C2, HE2.out _ rfl, HJ'.out⟩⟩
          · exact ⟨⟨_, rfl⟩, .inr ⟨_, C2, by rw [HE2.out _ rfl]; exact List.prefix_refl _, HJ'.out⟩⟩
      · have HE2 : Hid (pre.map Yw.key = tellsB s) := by
          show _ = _
          rw [HE.out, if_neg hc, List.append_nil, HS.out.key]
        clear HE
        have h1 : ¬ fr < s.size := fun h => hc (.inl h)
        have h2 : ws = [] := List.eq_nil_of_length_eq_zero (by omega)
        subst h2
        clear hc HR
        gi_wp2
        go_end0
        exact ⟨⟨_, rfl⟩, .inl ⟨pre, C1, HE2.out, HS.out.inv⟩⟩

end Go.Proofs.YtkidfflmbfnogaaDoor
