/- The program's DiskWrite. -/
import Derived.Test.YtbimfljllclgfaaDwI
namespace Go.Proofs.Ytbimfljllclgfaa
open Go.RowKit Go.Shelf
attribute [local go_sem] Oper.semAt_some

/-- The blocks that the body keeps. -/
def DC (w : World) (g xb : Nat) : Nat → Prop := fun k => k = g ∨ k = xb ∨ k = w.heap.size + 1
/-- Between two rounds. -/
structure DwX (w : World) (l : List ByteArray) (g c xb : Nat) (pre : List Rw) (C : Nat → Prop) (W : World) : Prop where
  cs : C = DC w g xb
  own : OwnStrs W g (g + 1) g (.slice (some ⟨g, 0, none⟩) l.length c) (writeV l pre)
  box : Blk W xb #[.slice (some ⟨g, 0, none⟩) l.length c] 22
  res : Blk W (w.heap.size + 1) #[.slice none 0 0] 28
  below : Below w.heap.size w W
  ord : w.heap.size + 1 < g ∧ g < xb
theorem DwX.kept {w : World} {l : List ByteArray} {g c xb : Nat} {pre : List Rw} {C : Nat → Prop} {A B : World} {n : Nat} (h : DwX w l g c xb pre C A) (hn : w.heap.size ≤ n) (hk : Kept (fun k => k < n ∨ C k) A B) : DwX w l g c xb pre C B := by
  have hC := h.cs
  subst hC
  have h1 := h.ord.1
  have h2 := h.ord.2
  have h3 := h.box.lt
  refine ⟨rfl, ownStrs_blk h.own (fun _ => hk.block g (by omega) (.inr (.inl rfl))), (hk.block _ h.box.lt (.inr (.inr (.inl rfl)))).trans h.box, (hk.block _ h.res.lt (.inr (.inr (.inr rfl)))).trans h.res, ?_, h.ord⟩
  exact h.below.trans (hk.below fun k hk => ⟨by omega, .inl (by omega)⟩)
theorem DwX.put {w : World} {l : List ByteArray} {g c xb : Nat} {pre : List Rw} {C : Nat → Prop} {W : World} {p : Nat} {data : ByteArray} (h : DwX w l g c xb pre C W) (hr : rawB ⟨(p : Int), data⟩ = true) (hpl : p < l.length) (hs : data.size ≤ maxLen) :
    Left (DwX w l g c xb) C (pre ++ [⟨(p : Int), data⟩]) W (W.setCell ⟨g, p, none⟩ (.string data)) := by
  have hC := h.cs
  subst hC
  have h1 := h.ord.1
  have h2 := h.ord.2
  have h3 := h.box.lt
  have hz : (W.setCell ⟨g, p, none⟩ (.string data)).heap.size = W.heap.size := by simp [World.setCell]
  refine ⟨DC w g xb, ⟨rfl, ?_, ?_, ?_, ?_, h.ord⟩, ?_, fun k hk => .inl hk, ?_⟩
  · rw [writeV_snoc, putR, if_pos hr]
    exact ownStrs_set h.own p (by rw [writeV_length]; exact hpl) _ hs
  · exact h.box.other _ _ (by show xb ≠ g; omega)
  · exact h.res.other _ _ (by show w.heap.size + 1 ≠ g; omega)
  · exact h.below.setCell (p := ⟨g, p, none⟩) (by show _ ≤ g; omega) _
  · exact ⟨rfl, rfl, rfl, by omega, fun k _ hn => Below.heap_setCell _ _ _ _ (by show k ≠ g; exact fun e => hn (.inl e))⟩
  · rintro k (h | h | h)
    · omega
    · omega
    · have := h ▸ h1; omega

theorem dw_put {W : World} {b : Nat} {A : Array Value} {t : TypeId} (h : Blk W b A t) {d : Nat} {o : Obj} (hd : b ≠ d) : Blk (W.putObj d o) b A t := (World.putObj_heap_other hd).trans h
theorem dw_below {W : World} {d n : Nat} {o : Obj} (hd : n ≤ d) : Below n W (W.putObj d o) := by
  have g := grownBy_putObj' W d o
  exact ⟨g.os, g.tape, g.output, g.size, fun k hk => World.putObj_heap_other (by omega)⟩

set_option maxRecDepth 100000 in
set_option maxHeartbeats 4000000 in
theorem implDiskWrite_any (l : List ByteArray) (rs : List Rw) (cut : Int) (v rv : Value) (rb : Nat) (w : World) (lo hi lo' hi' : Nat) (hv : StrsAt w lo hi v l) (hhi : hi ≤ w.heap.size) (hr : OwnRws w lo' hi' rb rv rs) (hrb : rb < w.heap.size) :
    Calls Try.prog 9 #[.agg #[v], rv, .int .i64 cut] w (fun e w' => DwV (diskV l rs cut) w e w') := by
  have HOk : Hid (∀ W, Below w.heap.size w W → Calls Try.prog 22 #[.agg #[v]] W fun e w' => e = .returned (.bool (diskB l)) ∧ Below W.heap.size W w') := fun W hb => implDiskOk_any l v W lo hi (hv.keep hb hhi) (Nat.le_trans hhi hb.size)
  have HCp : Hid (diskB l = true → ∀ W, Below w.heap.size w W → Calls Try.prog 23 #[v] W fun e w' => ∃ g c, e = .returned (.slice (some ⟨g, 0, none⟩) l.length c) ∧ W.heap.size ≤ g ∧ OwnStrs w' g (g + 1) g (.slice (some ⟨g, 0, none⟩) l.length c) l ∧ Below W.heap.size W w' ∧ g < w'.heap.size) := fun hd W hb =>
    clone_any l v W lo hi (hv.keep hb hhi) (Nat.le_trans hhi hb.size) (by have := (diskB_out l hd).1; omega) (by have := (diskB_out l hd).1; omega)
  have HRs := hide hr
  obtain ⟨da, dc, rfl, hdl, _⟩ := hv
  obtain ⟨⟨ra, rc, rfl, hrc, hrc2, rfl⟩, _⟩ := hr
  have HA : Hid (∀ o1 o2, Below w.heap.size w ((w.alloc o1).alloc o2)) := fun o1 o2 => ((Below.refl _ _).alloc (Nat.le_refl _) o1).alloc (by simp) o2
  have HB1 : Hid (∀ o1 A t, Blk ((w.alloc o1).alloc (.cells A t)) (w.heap.size + 1) A t) := fun o1 A t => Blk.atn (by simp)
  have HB0 : Hid (∀ A t o2, Blk ((w.alloc (.cells A t)).alloc o2) w.heap.size A t) := fun A t o2 => (Blk.new _ _ _).alloc _
  refine (callsIn_wide (n := 9)).1 ?_
  refine callsIn_of_wp_marks Try.func9 rfl trivial ?_ rfl
  simp only [Try.ntmps9, List.size_toArray, List.length_cons, List.length_nil, Nat.reduceAdd, Nat.reduceSub, Array.replicate_succ, Array.replicate_zero, List.push_toArray, List.append_toArray, List.nil_append, List.cons_append]
  cases hd : diskB l with
  | false =>
    rw [hd] at HOk
    have HV : Hid (diskV l rs cut = []) := by show _ = _; rw [diskV, hd]; rfl
    gi_wp2_with (refine ⟨trivial, ?_⟩; gi_at_call 22; refine (callsIn_wide.2 (HOk.out _ (HA.out _ _))).mono ?_; rintro e w1 ⟨rfl, hB1⟩; have q := (HB1.out _ _ _).below hB1 (HB1.out _ _ _).lt; have q0 := q.cell 0 _ rfl; have q1 := q.frozen 0; have HBw : Hid (Below w.heap.size w w1) := (HA.out _ _).trans (hB1.mono (HA.out _ _).size); clear hB1 q)
    refine ⟨.agg #[.slice none 0 0], by simp [results, Try.results9, go_sem, q0], HBw.out.setCell (p := ⟨w.heap.size + 1, 0, none⟩) (by show _ ≤ w.heap.size + 1; omega) _, ?_⟩
    rw [HV.out]
    exact ⟨none, 0, 0, rfl, ownStrs_nil _ _ _ _ _ _⟩
  | true =>
    rw [hd] at HOk
    have HCp := hide (HCp.out hd)
    have HV : Hid (diskV l rs cut = writeV l (rs.take (cutN rs.length cut))) := by show _ = _; rw [diskV, hd]; rfl
    have HL : Hid (l.length = 194) := (diskB_out l hd).1
    clear hd
    gi_wp2_with (first | (refine ⟨trivial, ?_⟩; gi_at_call 22; refine (callsIn_wide.2 (HOk.out _ (HA.out _ _))).mono ?_; rintro e w1 ⟨rfl, hB1⟩; have q := (HB1.out _ _ _).below hB1 (HB1.out _ _ _).lt; have HQ := hide q; have x0 := ((HB0.out _ _ _).below hB1 (HB0.out _ _ _).lt).cell 0 _ rfl; have HBw : Hid (Below w.heap.size w w1) := (HA.out _ _).trans (hB1.mono (HA.out _ _).size); clear hB1 q) | (refine ⟨trivial, ?_⟩; gi_at_call 23; refine (callsIn_wide.2 (HCp.out _ HBw.out)).mono ?_; rintro e w2 ⟨g, c, rfl, hg1, hO2, hB2, hg2⟩; have HO2 := hide hO2; have HB2 := hide hB2; have HG := hide (And.intro hg1 hg2); clear hO2 hB2 hg1 hg2) | (refine ⟨trivial, ?_⟩; gi_at_call 24; refine (callsIn_wide.2 (writesOf_any rb rc rs.length cut _ hrc hrc2)).mono ?_; rintro e w3 ⟨rfl, rfl⟩))
    obtain ⟨W0, hW0⟩ : ∃ W0, (w2.alloc (Obj.cells #[Value.slice (some ⟨g, 0, none⟩) l.length c] 22)).alloc (Obj.cells #[Value.slice (some ⟨rb, 0, none⟩) (cutN rs.length cut) rc] 31) = W0 := ⟨_, rfl⟩
    have HB20 : Hid (Below w2.heap.size w2 W0) := by subst hW0; exact ((Below.refl _ _).alloc (Nat.le_refl _) _).alloc (by simp) _
    have HZ : Hid (W0.heap.size = w2.heap.size + 2 ∧ w.heap.size + 1 < w1.heap.size ∧ w1.heap.size ≤ w2.heap.size) := by subst hW0; exact ⟨by simp, HQ.out.lt, HB2.out.size⟩
    have HBW : Hid (Below w.heap.size w W0) := (HBw.out.trans (HB2.out.mono HBw.out.size)).trans (HB20.out.mono (Nat.le_trans HBw.out.size HB2.out.size))
    have HI0 : Hid (DwX w l g c w2.heap.size [] (DC w g w2.heap.size) W0) := by
      have h1 := HZ.out
      have h2 := HG.out
      refine ⟨rfl, ownStrs_blk HO2.out (fun _ => HB20.out.block g h2.2), ?_, (HQ.out.below HB2.out HQ.out.lt).below HB20.out (by omega), HBW.out, by omega, h2.2⟩
      subst hW0; exact (Blk.new _ _ _).alloc _
    have HT0 : Hid (W0.cell? ⟨w2.heap.size + 1, 0, none⟩ = some (.slice (some ⟨rb, 0, none⟩) (cutN rs.length cut) rc)) := by
      subst hW0; exact (Blk.atn (A := #[.slice (some ⟨rb, 0, none⟩) (cutN rs.length cut) rc]) (by simp) : Blk _ _ _ _).cell 0 _ rfl
    rw [hW0]
    clear hW0
    have hlen : (rs.take (cutN rs.length cut)).length = cutN rs.length cut := by rw [List.length_take]; unfold cutN; omega
    refine rf_law (gf := 32) (lb := #[.pointer (some ⟨w2.heap.size + 1, 0, none⟩)]) rfl (enters_of Try.func32 (by kernel_rfl) rfl)
      (wo_seq (rs.take (cutN rs.length cut)) (w2.heap.size + 1) rb rc W0 (by rw [hlen]; unfold cutN; omega) (Nat.lt_of_lt_of_le hrb HBW.out.size) (fun i hi => by rw [List.getElem_take]; exact HRs.out.2.2.1 i (by rw [List.length_take] at hi; omega)) (by rw [hlen]; exact HT0.out)
        (fun i hi => by
          have hi2 : i < rs.length := by rw [List.length_take] at hi; omega
          have h5 := HRs.out.2.2.2.2 i hi2
          rw [List.getElem_take, HBW.out.cell (p := ⟨rb, i * 2, none⟩) hrb, HBW.out.cell (p := ⟨rb, i * 2 + 1, none⟩) hrb]
          exact ⟨h5.1, h5.2.1⟩)) (Below.refl _ _) (fun _ => rfl) (fun _ _ _ _ _ h _ => h) (fun _ _ _ _ _ h _ => h)
      (DC w g w2.heap.size) ?hD ?hC0
      (DwX w l g c w2.heap.size) (fun _ _ _ _ => False)
      (fun pre C A B h hk => h.kept HBW.out.size hk) (fun c pre C A B h _ => h)
      HI0.out
      (fun x a' _ => a' = { tmps := #[.agg #[.slice da l.length dc], .slice (some ⟨rb, 0, none⟩) rs.length rc, .int .i64 cut, .pointer (some ⟨w.heap.size, 0, none⟩), undef, undef, .pointer (some ⟨w.heap.size + 1, 0, none⟩), .pointer (some ⟨w2.heap.size, 0, none⟩), .int .i64 x.pos, .string x.data, .agg #[.slice da l.length dc], .bool true, .bool false, undef, .pointer (some ⟨w.heap.size, 0, none⟩), .slice da l.length dc, .slice (some ⟨g, 0, none⟩) l.length c, .slice (some ⟨rb, 0, none⟩) rs.length rc, .int .i64 cut, .func (.func 32) #[] #[.pointer (some ⟨w2.heap.size + 1, 0, none⟩)], .int .i64 x.pos, .string x.data, undef, undef, undef, undef, undef, undef], defers := [] })
      (fun _ _ _ _ _ _ _ h => h) ?assign ?body ?done ?stop
    case hD =>
      have h1 := HZ.out
      have h2 := HG.out
      rintro k (rfl | rfl)
      · refine ⟨by omega, ?_⟩
        rintro (h | h | h) <;> omega
      · refine ⟨by omega, ?_⟩
        rintro (h | h | h) <;> omega
    case hC0 =>
      have h1 := HZ.out
      have h2 := HG.out
      rintro k (h | h | h) <;> omega
    case assign =>
      intro l pre x C W K _ _ hK
      dsimp only [Rw.encs]
      gi_wp2
      exact hK _ _ (Below.refl _ _) rfl
    case body =>
      rintro l2 pre x C a' W hI hx hC rfl hl hr
      have HI := hide hI
      obtain ⟨p, hp, hp194, hs64⟩ := rawB_out hx
      obtain ⟨pos, data⟩ := x
      have hp : pos = (p : Int) := hp
      subst hp
      have hs64 : data.size ≤ 64 := hs64
      clear hI hC hl hr HI0 HT0
      have x0 := HI.out.box.cell 0 _ rfl
      have hpl : p < l.length := by have := HL.out; omega
      have hplI : (p : Int) < (l.length : Int) := by omega
      have y0 := (HI.out.own.2.2.2.2 p (by rw [writeV_length]; exact hpl)).1
      have y1 := (HI.out.own.2.2.2.2 p (by rw [writeV_length]; exact hpl)).2
      gi_wp2
      exact HI.out.put hx hpl (by unfold maxLen; omega)
    case done =>
      rintro d xs C W hd hS hI hK
      have HI := hide hI
      have HK := hide hK
      have HS := hide hS
      clear hI hS hK HI0 HT0
      have x0 := HI.out.box.cell 0 _ rfl
      have y0 := HI.out.res.cell 0 _ rfl
      have y1 := HI.out.res.frozen 0
      have hz0 := HZ.out
      gi_wp2
      obtain ⟨V, hV⟩ : ∃ V, W.setCell ⟨w.heap.size + 1, 0, none⟩ (.slice (some ⟨g, 0, none⟩) l.length c) = V := ⟨_, rfl⟩
      rw [hV]
      have hdV : V.heap[d]? = some (.deferred (some [])) := by
        rw [← hV, Below.heap_setCell _ _ _ _ (by show d ≠ w.heap.size + 1; omega)]; exact HK.out
      have v0 : Blk V (w.heap.size + 1) #[.slice (some ⟨g, 0, none⟩) l.length c] 28 := by rw [← hV]; exact HI.out.res.set 0 _
      have q0 := (dw_put v0 (d := d) (o := .deferred none) (by omega)).cell 0 _ rfl
      have hBV : Below w.heap.size w V := by rw [← hV]; exact HI.out.below.setCell (p := ⟨w.heap.size + 1, 0, none⟩) (by show _ ≤ w.heap.size + 1; omega) _
      have hg : ∀ o, (V.putObj d o).heap[g]? = W.heap[g]? := fun o => by
        have := HI.out.ord
        rw [World.putObj_heap_other (by omega), ← hV, Below.heap_setCell _ _ _ _ (by show g ≠ w.heap.size + 1; omega)]
      have hzV : ∀ o, W.heap.size ≤ (V.putObj d o).heap.size := fun o => by
        have h5 := (dw_below (W := V) (d := d) (n := 0) (o := o) (Nat.zero_le _)).size
        have h6 : V.heap.size = W.heap.size := by rw [← hV]; simp [World.setCell]
        omega
      have HL2 : Hid (diskV l rs cut = writeV l xs) := by
        show _ = _
        rw [HV.out, HS.out, writeV_filter]
      refine ⟨by simp, .inl ⟨_, _, rfl, run_takeDeferred hdV, ?_⟩⟩
      refine ⟨.agg #[.slice (some ⟨g, 0, none⟩) l.length c], by simp [results, Try.results9, go_sem, q0], hBV.trans (dw_below (by omega)), some ⟨g, 0, none⟩, c, g, ?_, ?_⟩
      · rw [HL2.out, writeV_length]
      · rw [HL2.out, writeV_length]
        have h7 := HI.out.ord
        have h8 := HI.out.box.lt
        have h9 := hzV (.deferred none)
        exact ownStrs_wide (ownStrs_blk HI.out.own (fun _ => hg _)) (by omega) (by omega)
    case stop => exact fun _ _ _ _ _ _ _ h _ => h.elim

end Go.Proofs.Ytbimfljllclgfaa
