/- PagesDrop of the specification. -/
import Derived.Test.YtnahpghbodmdbaaDoorDpD
import Derived.Test.YtnahpghbodmdbaaDoorLgD
import Derived.Test.YtnahpghbodmdbaaDoorL32At
import Derived.Test.YtnahpghbodmdbaaDoorPgSO
namespace Go.Proofs.YtnahpghbodmdbaaDoor
open Go.RowKit

theorem own_ends {w w3 : World} {b1 b2 : Nat} {v1 v2 x y : Value} {P : List Pg} {N : List Pn} (h : OwnPgs w3 b1 b2 v1 v2 P N) (l1 : w.heap.size + 2 ≤ b1) (l2 : w.heap.size + 2 ≤ b2) (hb : Below w.heap.size w w3) :
    OwnPgs ((w3.setCell ⟨w.heap.size + 1, 0, none⟩ x).setCell ⟨w.heap.size + 1, 1, none⟩ y) b1 b2 v1 v2 P N ∧ w.heap.size ≤ b1 ∧ w.heap.size ≤ b2 ∧ Below w.heap.size w ((w3.setCell ⟨w.heap.size + 1, 0, none⟩ x).setCell ⟨w.heap.size + 1, 1, none⟩ y) := by
  have hz : ((w3.setCell ⟨w.heap.size + 1, 0, none⟩ x).setCell ⟨w.heap.size + 1, 1, none⟩ y).heap.size = w3.heap.size := by simp [World.setCell]
  have hk : ∀ j, w.heap.size + 2 ≤ j → ((w3.setCell ⟨w.heap.size + 1, 0, none⟩ x).setCell ⟨w.heap.size + 1, 1, none⟩ y).heap[j]? = w3.heap[j]? := fun j hj => by
    rw [Below.heap_setCell _ _ _ _ (show j ≠ w.heap.size + 1 by omega), Below.heap_setCell _ _ _ _ (show j ≠ w.heap.size + 1 by omega)]
  exact ⟨⟨h.pgs.same (fun _ => hk b1 l1), h.nms.same (fun _ => hk b2 l2), h.ne, by rw [hz]; exact h.lt1, by rw [hz]; exact h.lt2⟩, by omega, by omega, (hb.setCell (p := ⟨w.heap.size + 1, 0, none⟩) (Nat.le_succ _) _).setCell (p := ⟨w.heap.size + 1, 1, none⟩) (Nat.le_succ _) _⟩
theorem OwnPgs.rd {w : World} {b1 b2 : Nat} {v1 v2 : Value} {l1 : List Pg} {l2 : List Pn} (h : OwnPgs w b1 b2 v1 v2 l1 l2) : RcsAt fPg w 0 w.heap.size v1 l1 ∧ RcsAt fPn w 0 w.heap.size v2 l2 :=
  ⟨h.pgs.rcs.wide (Nat.zero_le _) (by have := h.lt1; omega), h.nms.rcs.wide (Nat.zero_le _) (by have := h.lt2; omega)⟩

set_option maxRecDepth 100000 in
set_option maxHeartbeats 4000000 in
theorem specDrop_any (P : List Pg) (N : List Pn) (pv nv : Value) (s : ByteArray) (w : World) (lo hi : Nat) (hp : RcsAt fPg w lo hi pv P) (hn : RcsAt fPn w lo hi nv N) (hhi : hi ≤ w.heap.size)
    (hs : ∀ (i : Nat) (h : i < P.length), P[i].data.size ≤ maxLen) (hsn : ∀ (i : Nat) (h : i < N.length), N[i].name.size ≤ maxLen) :
    Calls Tryd.prog 10 #[.agg #[pv, nv], .string s] w (fun e w' => DropPost P N s w e w') := by
  have HOk := hide (fun (W : World) (hW : Below w.heap.size w W) => specOk_any P N pv nv W lo hi (hp.keep hW hhi) (hn.keep hW hhi) (Nat.le_trans hhi hW.size) hs hsn)
  have HCp := hide (fun (W : World) (hW : Below w.heap.size w W) (h1 : P.length ≤ 1000) (h2 : N.length ≤ 1000) => l32Copy_any P N pv nv W lo hi (hp.keep hW hhi) (hn.keep hW hhi) (Nat.le_trans hhi hW.size) h1 h2)
  have HSz := hide hs
  obtain ⟨pa, pc, rfl⟩ : ∃ a c, pv = .slice a P.length c := by obtain ⟨a, c, e, _⟩ := hp; exact ⟨_, _, e⟩
  obtain ⟨na, nc, rfl⟩ : ∃ a c, nv = .slice a N.length c := by obtain ⟨a, c, e, _⟩ := hn; exact ⟨_, _, e⟩
  clear hp hn hs hsn
  go_enter Tryd.func10, Tryd.ntmps10
  go_wp2_with fail
  generalize hW : (w.alloc (.cells #[.slice pa P.length pc, .slice na N.length nc] 32)).alloc (.cells #[.slice none 0 0, .slice none 0 0] 32) = W
  have HW : Hid (Below w.heap.size w W ∧ Blk W w.heap.size #[.slice pa P.length pc, .slice na N.length nc] 32 ∧ Blk W (w.heap.size + 1) #[.slice none 0 0, .slice none 0 0] 32 ∧ W.heap.size = w.heap.size + 2) := by
    subst hW
    exact ⟨((Below.refl _ _).alloc (Nat.le_refl _) _).alloc (by simp) _, (Blk.new w _ _).alloc _, Blk.atn (by simp), by simp⟩
  clear hW
  refine (HOk.out W HW.out.1).mono ?_
  rintro e w1 ⟨rfl, hB1⟩
  have H1 : Hid (Below W.heap.size W w1 ∧ Below w.heap.size w w1) := ⟨hB1, HW.out.1.trans (hB1.mono HW.out.1.size)⟩
  have HRs : Hid (∀ W', Below W.heap.size W W' → Blk W' (w.heap.size + 1) #[.slice none 0 0, .slice none 0 0] 32) := fun W' hb => HW.out.2.2.1.below hb HW.out.2.2.1.lt
  clear hB1
  cases hk : okV P N with
  | none =>
    have hok : okB P N = false := by unfold okB; rw [hk]; rfl
    have HR := hide (DropR.mkNo (s := s) hk)
    have hr := HRs.out w1 H1.out.1
    have r0 := hr.cell 0 _ rfl
    have r1 := hr.cell 1 _ rfl
    have t0 := hr.frozen 0
    have t1 := hr.frozen 1
    rw [hok]
    clear hk hok hr
    go_wp2_with fail
    refine bodyPost_ret (v := .tuple #[.agg #[.slice none 0 0, .slice none 0 0], .int .i64 1]) (by simp [results, Tryd.results10, go_sem, r0, r1]) rfl ?_
    have hz := HW.out.2.2.2
    have hz1 := H1.out.1.size
    have hzz : ((w1.setCell ⟨w.heap.size + 1, 0, none⟩ (.slice none 0 0)).setCell ⟨w.heap.size + 1, 1, none⟩ (.slice none 0 0)).heap.size = w1.heap.size := by simp [World.setCell]
    exact ⟨w.heap.size, w.heap.size + 1, _, _, [], [], 1, rfl, HR.out, ⟨OwnRcs.nil _ _ _ _ _ _ _, OwnRcs.nil _ _ _ _ _ _ _, by omega, by omega, by omega⟩, Nat.le_refl _, Nat.le_succ _, (H1.out.2.setCell (p := ⟨w.heap.size + 1, 0, none⟩) (Nat.le_succ _) _).setCell (p := ⟨w.heap.size + 1, 1, none⟩) (Nat.le_succ _) _⟩
  | some T =>
    have hok : okB P N = true := by unfold okB; rw [hk]; rfl
    have HNm := hide (okV_nms hk)
    have HK := hide hk
    rw [hok]
    have x0 := (HW.out.2.1.below H1.out.1 HW.out.2.1.lt).cell 0 _ rfl
    have x1 := (HW.out.2.1.below H1.out.1 HW.out.2.1.lt).cell 1 _ rfl
    clear hk hok
    go_wp2_with fail
    refine (HCp.out w1 H1.out.2 (by have := HNm.out.len; omega) (by have := HNm.out.few; omega)).mono ?_
    rintro e w2 ⟨b1, b2, a1, k1, a2, k2, rfl, hcap, ho, hl1, hl2, hB2⟩
    have H2 : Hid (Below W.heap.size W w2 ∧ OwnPgs w2 b1 b2 (.slice a1 P.length k1) (.slice a2 N.length k2) P N ∧ W.heap.size ≤ b1 ∧ W.heap.size ≤ b2 ∧ N.length ≤ k2) := by
      have := H1.out.1.size
      exact ⟨H1.out.1.trans (hB2.mono (by omega)), ho, by omega, by omega, hcap⟩
    clear hB2 ho hl1 hl2 hcap x0 x1 HCp HOk
    go_wp2_with fail
    generalize hW3 : w2.alloc (.cells #[.slice a1 P.length k1, .slice a2 N.length k2] 32) = w3
    have H3 : Hid (Below W.heap.size W w3 ∧ OwnPgs w3 b1 b2 (.slice a1 P.length k1) (.slice a2 N.length k2) P N ∧ Blk w3 w2.heap.size #[.slice a1 P.length k1, .slice a2 N.length k2] 32 ∧ b1 < w2.heap.size ∧ b2 < w2.heap.size) := by
      subst hW3
      have hb : Below w2.heap.size w2 (w2.alloc (.cells #[.slice a1 P.length k1, .slice a2 N.length k2] 32)) := (Below.refl _ _).alloc (Nat.le_refl _) _
      exact ⟨H2.out.1.trans (hb.mono H2.out.1.size), H2.out.2.1.below hb, Blk.new _ _ _, H2.out.2.1.lt1, H2.out.2.1.lt2⟩
    clear hW3
    have HAt := hide (l32At_any N (.slice a1 P.length k1) (.slice a2 N.length k2) s w3 0 w3.heap.size ⟨_, _, _, rfl⟩ H3.out.2.1.rd.2 (Nat.le_refl _))
    have y0 := H3.out.2.2.1.cell 0 _ rfl
    have y1 := H3.out.2.2.1.cell 1 _ rfl
    try go_wp2_with fail
    refine HAt.out.mono ?_
    rintro e w4 ⟨hat, hB4⟩
    have H4 : Hid (Below W.heap.size W w4 ∧ OwnPgs w4 b1 b2 (.slice a1 P.length k1) (.slice a2 N.length k2) P N ∧ Blk w4 w2.heap.size #[.slice a1 P.length k1, .slice a2 N.length k2] 32 ∧ w2.heap.size < w4.heap.size) := ⟨H3.out.1.trans (hB4.mono H3.out.1.size), H3.out.2.1.below hB4, H3.out.2.2.1.below hB4 H3.out.2.2.1.lt, Nat.lt_of_lt_of_le H3.out.2.2.1.lt hB4.size⟩
    clear hB4 y0 y1 HAt
    have y0 := H4.out.2.2.1.cell 0 _ rfl
    have y1 := H4.out.2.2.1.cell 1 _ rfl
    have hzW := HW.out.2.2.2
    have hbl := H2.out.2.2
    rcases hat with ⟨rfl, hno⟩ | ⟨i, hi, rfl, hnm⟩
    · have HR := hide (DropR.mkOut (s := s) HK.out hno)
      have hr := HRs.out w4 H4.out.1
      have r0 := hr.cell 0 _ rfl
      have r1 := hr.cell 1 _ rfl
      have t0 := hr.frozen 0
      have t1 := hr.frozen 1
      clear hno hr
      go_wp2_with fail
      refine bodyPost_ret (v := .tuple #[.agg #[.slice a1 P.length k1, .slice a2 N.length k2], .int .i64 3]) (by simp [results, Tryd.results10, go_sem, r0, r1]) rfl ?_
      exact ⟨b1, b2, _, _, P, N, 3, rfl, HR.out, own_ends H4.out.2.1 (by omega) (by omega) (HW.out.1.trans (H4.out.1.mono HW.out.1.size))⟩
    · obtain ⟨c, e0, hch⟩ := HNm.out.chain i hi
      have HR : Hid (DropR P N s (dropP P c) (N.eraseIdx i) 0) := DropR.mkYes HK.out hi hnm hch
      obtain ⟨hs0, hs1⟩ := HNm.out.size i hi
      have HDr := hide (l32Drop_any P N a1 a2 k1 k2 b1 b2 i N[i].size.toNat c e0 w4 H4.out.2.1 HNm.out.len HNm.out.few hbl.2.2 HSz.out hi (by omega) (by omega) hch)
      have hni : ¬ ((i : Int) < 0) := by omega
      clear hnm hch hs0 hs1
      go_wp2_with fail
      refine HDr.out.mono ?_
      rintro e w5 ⟨g, a5, k5, rfl, ho5, hI5, hg5⟩
      have H5 : Hid (Below W.heap.size W w5 ∧ OwnPgs w5 b1 g (.slice a1 P.length k1) (.slice a5 (N.eraseIdx i).length k5) (dropP P c) (N.eraseIdx i)) := ⟨H4.out.1.trans (hI5.toBelow (by omega) H4.out.1.size), ho5⟩
      have hlenP : (dropP P c).length = P.length := dropP_length P c
      have HC5 := hide (l32Copy_any (dropP P c) (N.eraseIdx i) (.slice a1 P.length k1) (.slice a5 (N.eraseIdx i).length k5) w5 0 w5.heap.size H5.out.2.rd.1 H5.out.2.rd.2 (Nat.le_refl _) (by have := HNm.out.len; omega) (by rw [List.length_eraseIdx, if_pos hi]; have := HNm.out.few; omega))
      clear ho5 hI5 hg5 HDr y0 y1
      go_wp2_with fail
      refine HC5.out.mono ?_
      rintro e w6 ⟨d1, d2, a6, k6, a7, k7, rfl, _, ho6, hl6, hl7, hB6⟩
      have H6 : Hid (Below W.heap.size W w6 ∧ OwnPgs w6 d1 d2 (.slice a6 (dropP P c).length k6) (.slice a7 (N.eraseIdx i).length k7) (dropP P c) (N.eraseIdx i) ∧ W.heap.size ≤ d1 ∧ W.heap.size ≤ d2) := by
        have := H5.out.1.size
        exact ⟨H5.out.1.trans (hB6.mono (by omega)), ho6, by omega, by omega⟩
      have hr := HRs.out w6 H6.out.1
      have r0 := hr.cell 0 _ rfl
      have r1 := hr.cell 1 _ rfl
      have t0 := hr.frozen 0
      have t1 := hr.frozen 1
      clear hr ho6 hl6 hl7 hB6 HC5 H5 hlenP
      generalize (dropP P c).length = lp at H6 ⊢
      generalize (N.eraseIdx i).length = ln at H6 ⊢
      go_wp2_with fail
      refine bodyPost_ret (v := .tuple #[.agg #[.slice a6 lp k6, .slice a7 ln k7], .int .i64 0]) (by simp [results, Tryd.results10, go_sem, r0, r1]) rfl ?_
      have hq := H6.out.2.2
      exact ⟨d1, d2, _, _, dropP P c, N.eraseIdx i, 0, rfl, HR.out, own_ends H6.out.2.1 (by omega) (by omega) (HW.out.1.trans (H6.out.1.mono HW.out.1.size))⟩

end Go.Proofs.YtnahpghbodmdbaaDoor
