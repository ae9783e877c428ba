/- The specification's DiskWrite. -/
import Derived.Test.YtbimfljllclgfaaDwS
namespace Go.Proofs.Ytbimfljllclgfaa
open Go.RowKit

theorem take_next (rs : List Rw) (k : Nat) (h : k < rs.length) : rs.take (k + 1) = rs.take k ++ [rs[k]] := List.take_succ_eq_append_getElem h
theorem rawB_out {r : Rw} (h : rawB r = true) : ∃ p : Nat, r.pos = (p : Int) ∧ p < 194 ∧ r.data.size ≤ 64 := by
  unfold rawB at h
  rw [Bool.and_eq_true, Bool.and_eq_true] at h
  obtain ⟨⟨h1, h2⟩, h3⟩ := h
  have h1 := of_decide_eq_true h1
  have h2 := of_decide_eq_true h2
  exact ⟨r.pos.toNat, by omega, by omega, of_decide_eq_true h3⟩
theorem writeV_yes (l : List ByteArray) (rs : List Rw) (k p : Nat) (h : k < rs.length) (hr : rawB rs[k] = true) (hp : rs[k].pos = (p : Int)) : writeV l (rs.take (k + 1)) = (writeV l (rs.take k)).set p rs[k].data := by
  rw [take_next rs k h, writeV_snoc, putR, if_pos hr, hp, Int.toNat_natCast]
theorem writeV_no (l : List ByteArray) (rs : List Rw) (k : Nat) (h : k < rs.length) (hr : rawB rs[k] = false) : writeV l (rs.take (k + 1)) = writeV l (rs.take k) := by
  rw [take_next rs k h, writeV_snoc, putR, if_neg (by simp [hr])]

/-- Between two rounds of the specification's loop. -/
structure DwI (w : World) (l : List ByteArray) (rs : List Rw) (g c xb : Nat) (k : Nat) (wr : World) : Prop where
  below : Below w.heap.size w wr
  own : OwnStrs wr g (g + 1) g (.slice (some ⟨g, 0, none⟩) l.length c) (writeV l (rs.take k))
  box : Blk wr xb #[.slice (some ⟨g, 0, none⟩) l.length c] 28
  res : Blk wr (w.heap.size + 1) #[.slice none 0 0] 28
  ord : w.heap.size + 1 < g ∧ g < xb

theorem DwI.put {w : World} {l : List ByteArray} {rs : List Rw} {g c xb k p n : Nat} {wr : World} (h : DwI w l rs g c xb k wr) (hk : k < rs.length) (hr : rawB rs[k] = true) (hp : rs[k].pos = (p : Int)) (hpl : p < l.length) (hs : rs[k].data.size ≤ 64) :
    DwI w l rs g c xb (k + 1) ((wr.drewN n).setCell ⟨g, p, none⟩ (.string rs[k].data)) := by
  have h1 := h.ord.1
  have h2 := h.ord.2
  have hsame : ∀ j : Nat, (wr.drewN n).heap[j]? = wr.heap[j]? := fun j => rfl
  refine ⟨?_, ?_, ?_, ?_, h.ord⟩
  · exact (below_drewN h.below n).setCell (p := ⟨g, p, none⟩) (by show _ ≤ g; omega) _
  · rw [writeV_yes l rs k p hk hr hp]
    exact ownStrs_set (h.own.same (w' := wr.drewN n) (fun j _ _ => hsame j)) p (by rw [writeV_length]; exact hpl) _ (by unfold maxLen; omega)
  · exact (show Blk (wr.drewN n) xb _ _ from h.box).other _ _ (by show xb ≠ g; omega)
  · exact (show Blk (wr.drewN n) _ _ _ from h.res).other _ _ (by show w.heap.size + 1 ≠ g; omega)
theorem DwI.keep {w : World} {l : List ByteArray} {rs : List Rw} {g c xb k : Nat} {wr w1 : World} (h : DwI w l rs g c xb k wr) (hb : Below wr.heap.size wr w1) : DwI w l rs g c xb k w1 := by
  have h1 := h.ord.1
  have h2 := h.ord.2
  have hx := h.box.lt
  exact ⟨h.below.trans (hb.mono h.below.size), ownStrs_blk h.own (fun _ => hb.block g (by omega)), h.box.below hb hx, h.res.below hb h.res.lt, h.ord⟩
theorem DwI.next {w : World} {l : List ByteArray} {rs : List Rw} {g c xb k : Nat} {wr : World} (h : DwI w l rs g c xb k wr) (hk : k < rs.length) (hr : rawB rs[k] = false) : DwI w l rs g c xb (k + 1) wr :=
  ⟨h.below, by rw [writeV_no l rs k hk hr]; exact h.own, h.box, h.res, h.ord⟩

/-- A disk of these blocks, in memory of its own. -/
def DwV (V : List ByteArray) (w : World) (e : Ending) (w' : World) : Prop := Below w.heap.size w w' ∧ ∃ a c b, e = .returned (.agg #[.slice a V.length c]) ∧ OwnStrs w' w.heap.size w'.heap.size b (.slice a V.length c) V

theorem DwI.done {w : World} {l : List ByteArray} {rs : List Rw} {g c xb k : Nat} {wr : World} {V : List ByteArray} (h : DwI w l rs g c xb k wr) (hV : V = writeV l (rs.take k)) :
    DwV V w (.returned (.agg #[.slice (some ⟨g, 0, none⟩) l.length c])) (wr.setCell ⟨w.heap.size + 1, 0, none⟩ (.slice (some ⟨g, 0, none⟩) l.length c)) := by
  have h1 := h.ord.1
  have h2 := h.ord.2
  have h3 := h.box.lt
  have hz : (wr.setCell ⟨w.heap.size + 1, 0, none⟩ (.slice (some ⟨g, 0, none⟩) l.length c)).heap.size = wr.heap.size := by simp [World.setCell]
  have hl : V.length = l.length := by rw [hV, writeV_length]
  refine ⟨h.below.setCell (p := ⟨w.heap.size + 1, 0, none⟩) (by show _ ≤ w.heap.size + 1; omega) _, some ⟨g, 0, none⟩, c, g, by rw [hl], ?_⟩
  rw [hl, hV]
  exact ownStrs_wide (ownStrs_blk h.own (fun _ => Below.heap_setCell _ _ _ _ (by show g ≠ w.heap.size + 1; omega))) (by omega) (by omega)

set_option maxHeartbeats 4000000 in
set_option maxRecDepth 100000 in
theorem specDiskWrite_any (l : List ByteArray) (rs : List Rw) (cut : Int) (v rv : Value) (w : World) (lo hi lo' hi' : Nat) (hv : StrsAt w lo hi v l) (hhi : hi ≤ w.heap.size) (hr : RwsAt w lo' hi' rv rs) (hhi' : hi' ≤ w.heap.size) (hrl : rs.length ≤ 1048576) :
    Calls Try.prog 6 #[.agg #[v], rv, .int .i64 cut] w (fun e w' => DwV (diskV l rs cut) w e w') := by
  have HOk : Hid (∀ W, Below w.heap.size w W → Calls Try.prog 17 #[.agg #[v]] W fun e w' => e = .returned (.bool (diskB l)) ∧ Below W.heap.size W w') := fun W hb => specDiskOk_any l v W lo hi (hv.keep hb hhi) (Nat.le_trans hhi hb.size)
  have HCp : Hid (diskB l = true → ∀ W, Below w.heap.size w W → Calls Try.prog 18 #[.agg #[v]] W fun e w' => ∃ g c, e = .returned (.agg #[.slice (some ⟨g, 0, none⟩) l.length c]) ∧ W.heap.size ≤ g ∧ OwnStrs w' g (g + 1) g (.slice (some ⟨g, 0, none⟩) l.length c) l ∧ Below W.heap.size W w' ∧ g < w'.heap.size) := fun hd W hb =>
    l21Copy_any l v W lo hi (hv.keep hb hhi) (Nat.le_trans hhi hb.size) (by have := (diskB_out l hd).1; omega) (by have := (diskB_out l hd).1; omega)
  have HRs := hide hr
  obtain ⟨da, dc, rfl, hdl, _⟩ := hv
  obtain ⟨ra, rc, rfl, _⟩ := hr
  have HA : Hid (∀ o1 o2, Below w.heap.size w ((w.alloc o1).alloc o2)) := fun o1 o2 => ((Below.refl _ _).alloc (Nat.le_refl _) o1).alloc (by simp) o2
  cases hd : diskB l with
  | false =>
    rw [hd] at HOk
    have HV : Hid (diskV l rs cut = []) := by show _ = _; rw [diskV, hd]; rfl
    go_enter Try.func6, Try.ntmps6
    go_wp2_with fail
    generalize hW : (w.alloc (Obj.cells #[.slice da l.length dc] 28)).alloc (Obj.cells #[.slice none 0 0] 28) = W
    have HW : Hid (Below w.heap.size w W ∧ Blk W (w.heap.size + 1) #[.slice none 0 0] 28) := by subst hW; exact ⟨HA.out _ _, Blk.atn (by simp)⟩
    clear hW
    refine (HOk.out W HW.out.1).mono ?_
    rintro e w1 ⟨rfl, hB1⟩
    have q := HW.out.2.below hB1 HW.out.2.lt
    have HB1 : Hid (Below w.heap.size w w1) := HW.out.1.trans (hB1.mono HW.out.1.size)
    have q0 := q.cell 0 _ rfl
    have q1 := q.frozen 0
    clear hB1 q
    go_wp2_with fail
    refine bodyPost_ret (v := .agg #[.slice none 0 0]) (by simp [results, Try.results6, go_sem, q0]) rfl ⟨HB1.out.setCell (p := ⟨w.heap.size + 1, 0, none⟩) (by show _ ≤ w.heap.size + 1; omega) _, ?_⟩
    rw [HV.out]
    exact ⟨none, 0, 0, rfl, ownStrs_nil _ _ _ _ _ _⟩
  | true =>
    rw [hd] at HOk
    have HCp := hide (HCp.out hd)
    have HV : Hid (diskV l rs cut = writeV l (rs.take (cutN rs.length cut))) := by show _ = _; rw [diskV, hd]; rfl
    have HL : Hid (l.length = 194) := (diskB_out l hd).1
    clear hd
    go_enter Try.func6, Try.ntmps6
    go_wp2_with fail
    generalize hW : (w.alloc (Obj.cells #[.slice da l.length dc] 28)).alloc (Obj.cells #[.slice none 0 0] 28) = W
    have HW : Hid (Below w.heap.size w W ∧ Blk W (w.heap.size + 1) #[.slice none 0 0] 28 ∧ Blk W w.heap.size #[.slice da l.length dc] 28) := by subst hW; exact ⟨HA.out _ _, Blk.atn (by simp), (Blk.new _ _ _).alloc _⟩
    clear hW HA
    refine (HOk.out W HW.out.1).mono ?_
    rintro e w1 ⟨rfl, hB1⟩
    have HW1 : Hid (Below w.heap.size w w1 ∧ Blk w1 (w.heap.size + 1) #[.slice none 0 0] 28) := ⟨HW.out.1.trans (hB1.mono HW.out.1.size), HW.out.2.1.below hB1 HW.out.2.1.lt⟩
    have q0 := (HW.out.2.2.below hB1 HW.out.2.2.lt).cell 0 _ rfl
    clear hB1 HW HOk
    go_wp2_with fail
    refine (HCp.out w1 HW1.out.1).mono ?_
    rintro e w2 ⟨g, c, rfl, hg1, hO2, hB2, hg2⟩
    have HI2 : Hid (∀ t, DwI w l rs g c w2.heap.size 0 (w2.alloc (.cells #[.slice (some ⟨g, 0, none⟩) l.length c] t)) ∨ t ≠ 28) := fun t => by
      by_cases e : t = 28
      · subst e
        refine .inl ⟨(HW1.out.1.trans (hB2.mono HW1.out.1.size)).alloc (Nat.le_trans HW1.out.1.size hB2.size) _, ?_, Blk.new _ _ _, (HW1.out.2.below hB2 HW1.out.2.lt).alloc _, ?_, hg2⟩
        · exact ownStrs_blk hO2 (fun _ => Below.heap_alloc _ _ _ hg2)
        · have := HW1.out.2.lt; omega
      · exact .inr e
    clear hO2 hB2 q0 HW1 HCp
    go_wp2_with fail
    go_loopw [8] (fun i wr => ∃ (k : Nat), k ≤ cutN rs.length cut ∧ i = .int .i64 k ∧ Hid (DwI w l rs g c w2.heap.size k wr)) (fun i _ => rs.length - (intOf i).toNat)
    case atStart =>
      refine ⟨0, Nat.zero_le _, rfl, ?_⟩
      rcases HI2.out 28 with h | h
      · exact h
      · exact absurd rfl h
    case round =>
      obtain ⟨k, hk, rfl, HI⟩ := hrel
      clear HI2
      have hkl : k ≤ rs.length := Nat.le_trans hk (Nat.min_le_right _ _)
      by_cases hlt : k < rs.length
      · by_cases hc : (k : Int) < cut
        · have hk1 : k + 1 ≤ cutN rs.length cut := by unfold cutN; omega
          obtain ⟨ra', rc', he, _, hsz, hcells⟩ := HRs.out.keep HI.out.below hhi'
          simp only [Value.slice.injEq, true_and] at he
          obtain ⟨rfl, rfl⟩ := he
          obtain ⟨rb, ro, rfl, _, hrb, hcell⟩ := hcells (by omega)
          obtain ⟨c0, c1⟩ := hcell k hlt
          have HOk := hide (l21RawOk_any rs[k] wr (hsz k hlt))
          have hdI : (k : Int) < (rs.length : Int) := by omega
          clear hcell hcells hsz
          cases hrw : rawB rs[k] with
          | false =>
            rw [hrw] at HOk
            go_wp2_with fail
            refine HOk.out.mono ?_
            rintro e w3 ⟨rfl, hB3⟩
            have HB3 := hide hB3
            clear hB3
            go_wp2_with fail
            go_roundw
            case rel => exact ⟨k + 1, hk1, by go_num, (HI.out.keep HB3.out).next hlt hrw⟩
            case measure => simp [intOf]; omega
          | true =>
            rw [hrw] at HOk
            obtain ⟨p, hp, hp194, hs64⟩ := rawB_out hrw
            have HP := hide (And.intro hp hs64)
            rw [hp] at c0 HOk
            go_wp2_with fail
            refine HOk.out.mono ?_
            rintro e w3 ⟨rfl, hB3⟩
            have HI3 := hide (HI.out.keep hB3)
            have hbb : rb < wr.heap.size := Nat.lt_of_lt_of_le hrb (Nat.le_trans hhi' HI.out.below.size)
            have d0 := (hB3.cell (p := ⟨rb, _, none⟩) hbb).trans c0
            have d1 := (hB3.cell (p := ⟨rb, _, none⟩) hbb).trans c1
            have x0 := HI3.out.box.cell 0 _ rfl
            have hpl : p < l.length := by have := HL.out; omega
            have hplI : (p : Int) < (l.length : Int) := by omega
            have y0 := (HI3.out.own.2.2.2.2 p (by rw [writeV_length]; exact hpl)).1
            have y1 := (HI3.out.own.2.2.2.2 p (by rw [writeV_length]; exact hpl)).2
            clear hB3 c0 c1 hp hs64 hbb
            go_wp2_with fail
            go_region
            all_goals
              go_wp2_with fail
              go_roundw
              case rel => exact ⟨k + 1, hk1, by go_num, HI3.out.put hlt hrw HP.out.1 hpl HP.out.2⟩
              case measure => simp [intOf]; omega
        · have e : k = cutN rs.length cut := by unfold cutN at hk ⊢; omega
          have HE := hide e
          clear e
          have x0 := HI.out.box.cell 0 _ rfl
          have y0 := HI.out.res.cell 0 _ rfl
          have y1 := HI.out.res.frozen 0
          have hdI : (k : Int) < (rs.length : Int) := by omega
          go_wp2_with fail
          refine bodyPost_ret (v := .agg #[.slice (some ⟨g, 0, none⟩) l.length c]) (by simp [results, Try.results6, go_sem, y0]) rfl (HI.out.done ?_)
          rw [HV.out, HE.out]
      · have e : k = cutN rs.length cut := by unfold cutN at hk ⊢; omega
        have HE := hide e
        clear e
        have x0 := HI.out.box.cell 0 _ rfl
        have y0 := HI.out.res.cell 0 _ rfl
        have y1 := HI.out.res.frozen 0
        go_wp2_with fail
        refine bodyPost_ret (v := .agg #[.slice (some ⟨g, 0, none⟩) l.length c]) (by simp [results, Try.results6, go_sem, y0]) rfl (HI.out.done ?_)
        rw [HV.out, HE.out]

end Go.Proofs.Ytbimfljllclgfaa
