/- The shelf's letGo. -/
import Derived.Test.YtnahpghbodmdbaaDoorLgS
import Derived.BigRegionIn
import Derived.Deep.Cut
import Derived.Deep.CutRange
import Derived.Deep.RegionWith
namespace Go.Proofs.YtnahpghbodmdbaaDoor
open Go.RowKit Go.Shelf
attribute [local go_sem] Oper.semAt_some

theorem row_not {W : World} {lo : Nat} {t : TypeId} {sz n : Nat} {v : Value} {xs : List Value} {d : Nat} {x : Option (List Deferred)} (h : W.ownsRow lo t sz v n xs) (hd : W.heap[d]? = some (.deferred x)) : v.ownBlock ≠ some d := fun e => by
  rcases h.2 with ⟨rfl, _⟩ | ⟨g, cap, cur, rfl, hg1, hg2, _⟩
  · cases e
  · simp only [Value.ownBlock, Option.some.injEq] at e
    subst e
    rw [hg2] at hd
    cases hd
theorem Slf.notd {w0 : World} {P : List Pg} {N : List Pn} {sb lb lcap : Nat} {mv iv : Value} {nq : Nat} {W : World} (h : Slf w0 P N sb lb lcap mv iv nq W) {d : Nat} {x : Option (List Deferred)} (hd : W.heap[d]? = some (.deferred x)) (k : Nat) (hk : k < w0.heap.size ∨ k = sb ∨ k = lb ∨ mv.ownBlock = some k ∨ iv.ownBlock = some k) (h0 : w0.heap.size ≤ d) : k ≠ d := by
  rintro rfl
  rcases hk with e | e | e | e | e
  · omega
  · subst e
    have hc := h.c0
    simp [World.cell?, hd] at hc
  · subst e
    exact row_not h.lrow hd rfl
  · exact row_not h.nrow hd e
  · obtain ⟨ys, hq, _⟩ := h.q
    exact row_not hq.ir hd e

/-- Behind a body that does not panic. (A drawn region wants what is asked of a panic to be blind to the slots.) -/
def noPan (Q : Exit → Act → World → Prop) : Exit → Act → World → Prop
  | .panic _, _, _ => False
  | e, a, w => Q e a w
theorem noPan_in {P : Program} {c : Code} {Q : Exit → Act → World → Prop} {a : Act} {w : World} (h : c.wp P (noPan Q) a w) : c.wp P (noPan Q) a w := h
theorem noPan_out {Q : Exit → Act → World → Prop} (e : Exit) (a : Act) (w : World) (h : noPan Q e a w) : Q e a w := by
  cases e <;> first | exact h | exact h.elim

set_option maxRecDepth 100000 in
set_option maxHeartbeats 4000000 in
theorem letGo_any (w0 : World) (P : List Pg) (N : List Pn) (sb lb lcap : Nat) (mv iv0 : Value) (pos m : Nat) (c : List Nat) (e0 : Int) (w : World) (hS : Slf w0 P N sb lb lcap mv iv0 96 w) (hp : pos < N.length) (hN : N.length ≤ 16) (hm : m ≤ 3000) (hch : chainV P N[pos].first m = some (c, e0)) (hnd : c.Nodup) :
    Calls Tryd.prog 51 #[.pointer (some ⟨sb, 0, none⟩), .int .i64 (pos : Int)] w fun e w' => e = .returned (.tuple #[]) ∧ ∃ mv' iv, Slf w0 (dropP P c) (N.eraseIdx pos) sb lb lcap mv' iv 200 w' := by
  have HS := hide hS
  have HCh := hide (fun (W : World) => chain_any sb N[pos].first W)
  have HLen := hide (chainV_len P m N[pos].first m c e0 (Nat.le_refl _) hch).1
  have HChn := hide hch
  have HNd := hide hnd
  obtain ⟨na, nc, rfl⟩ := ownsRow_form hS.nrow
  obtain ⟨g, cap, hge, hg1, hg2⟩ := ownsRow_at hS.nrow (by omega)
  simp only [Value.slice.injEq, true_and] at hge
  obtain ⟨rfl, rfl⟩ := hge
  obtain ⟨y0, y1, y2⟩ := row3_cells hS.nrow rfl pos hp
  have c1 := hS.c1
  have hsl := hS.sbl
  simp only [fPn] at y1
  have hpI : (pos : Int) < (N.length : Int) := by omega
  clear y0 y2 hS hch hnd
  generalize N[pos].first = first at HCh HLen HChn y1
  refine (callsIn_wide (n := 9)).1 ?_
  refine callsIn_of_wp_marks Tryd.func51 rfl trivial ?_ rfl
  simp only [Tryd.ntmps51, List.size_toArray, List.length_cons, List.length_nil, Nat.reduceAdd, Nat.reduceSub, Array.replicate_succ, Array.replicate_zero, List.push_toArray, List.append_toArray, List.nil_append, List.cons_append]
  refine wpIn_mono (wpIn_wide.2 (noPan_in ?_)) noPan_out
  go_wp2_with fail
  go_cut [14] from 5 to 14 (fun f wx => ∃ B, f = .func (.func 67) #[] #[.pointer (some ⟨B + 1, 0, none⟩), .pointer (some ⟨B, 0, none⟩)] ∧ Hid (Below w.heap.size w wx ∧ Blk wx w.heap.size #[.pointer (some ⟨sb, 0, none⟩)] 46 ∧ Blk wx B #[.pointer (some ⟨sb, 0, none⟩)] 46 ∧ Blk wx (B + 1) #[.int .i64 first] 3 ∧ w.heap.size < B))
  case first =>
    go_region_with (go_at_call 55; refine (HCh.out _).mono ?_; rintro e w3 ⟨rfl, rfl⟩)
    all_goals
      go_wp2_with fail
      go_meet
      refine ⟨w.heap.size + 1, rfl, ?_⟩
      refine ⟨((((Below.refl _ _).alloc (Nat.le_refl _) _).alloc (by simp) _).alloc (by simp; omega) _).drew, ?_, ?_, ?_, Nat.lt_succ_self _⟩
      · exact ((Blk.new w #[.pointer (some ⟨sb, 0, none⟩)] 46).alloc _).alloc _
      · exact (Blk.atn (A := #[.pointer (some ⟨sb, 0, none⟩)]) (t := 46) (by simp)).alloc _
      · exact Blk.atn (A := #[.int .i64 first]) (t := 3) (by simp)
  case rest =>
    obtain ⟨B, rfl, H0⟩ := hcut
    rename World => W0
    have HZ : Hid (w.heap.size < B ∧ B + 1 < W0.heap.size ∧ w.heap.size ≤ W0.heap.size) := ⟨H0.out.2.2.2.2, H0.out.2.2.2.1.lt, H0.out.1.size⟩
    obtain ⟨na, nc', hiv⟩ : ∃ ys, QI w (w0.heap.size + 1) sb iv0 ys ∧ ys.length ≤ 96 := HS.out.q
    have HI0 : Hid (LgI w0 P N first c e0 sb lb lcap (.slice (some ⟨g, 0, none⟩) N.length nc) iv0 w.heap.size W0.heap.size [] (fun k => k = lb ∨ k = sb ∨ iv0.ownBlock = some k) W0 iv0) := by
      have hz := HZ.out
      have hl := HS.out.lbl
      have hs := HS.out.sbl
      refine ⟨HS.out.step H0.out.1, .inl rfl, .inr (.inl rfl), fun g hg => .inr (.inr hg), fun k hk => ?_, ⟨m, c, HChn.out, rfl⟩, Nat.le_refl _, H0.out.2.1, by omega, by omega, by omega, fun g' hg' => ?_, ?_⟩
      · rcases hk with h | h | h
        · exact .inl h
        · exact .inr (.inl h)
        · exact .inr (.inr (.inl h))
      · have := (HS.out.nrow.lt g' hg').2; omega
      · have := HS.out.below.size; omega
    clear hiv na nc' c1 y1
    go_wp2_with fail
    refine (wpIn_wide (n := 9)).1 ?_
    refine rf_lawR (gf := 67) (lb := #[.pointer (some ⟨B + 1, 0, none⟩), .pointer (some ⟨B, 0, none⟩)]) rfl (enters_of Tryd.func67 (by kernel_rfl) rfl)
      (chain_seqR (fun pre => dropP P (pre.map Prod.fst)) first (B + 1) B sb lb lcap W0 (by have := HZ.out; omega) (by have := HZ.out; omega) (H0.out.2.2.2.1.cell 0 _ rfl) (H0.out.2.2.1.cell 0 _ rfl))
      (Below.refl _ _) (fun _ => rfl) (fun _ _ _ _ _ h _ => h) (fun _ _ _ _ _ h _ => h)
      (fun k => k = lb ∨ k = sb ∨ iv0.ownBlock = some k) ?hD ?hC0
      (fun pre C W => ∃ iv, LgI w0 P N first c e0 sb lb lcap (.slice (some ⟨g, 0, none⟩) N.length nc) iv0 w.heap.size W0.heap.size pre C W iv) (fun _ _ _ _ => False)
      (fun pre C A B ⟨v, h⟩ hk => ⟨v, h.kept hk⟩) (fun _ _ _ _ _ h _ => h)
      (fun pre C A ⟨v, h⟩ => h.rp)
      ⟨_, HI0.out⟩
      (fun x a' A => a' = { tmps := #[.pointer (some ⟨sb, 0, none⟩), .int .i64 (pos : Int), .pointer (some ⟨w.heap.size, 0, none⟩), undef, .int .i64 (x.1 : Int), u5, u6, u7, u8, u9, u10, u11, u12, u13, .func (.func 67) #[] #[.pointer (some ⟨B + 1, 0, none⟩), .pointer (some ⟨B, 0, none⟩)], .int .i64 (x.1 : Int), aPg x.2, undef, undef, undef, undef, undef, undef, undef, undef, undef, undef, undef, undef, undef, undef, undef, undef, undef, undef, undef, undef, undef, undef, undef], defers := [] })
      (fun x a' A l r o hl h => h) ?assign ?body ?done ?stop
    case hD =>
      have hz := HZ.out
      have hl := HS.out.lbl
      have hs := HS.out.sbl
      obtain ⟨ys, hq, _⟩ := HS.out.q
      intro k hk
      refine ⟨by rcases hk with rfl | rfl <;> omega, ?_⟩
      rintro (h | h | h)
      · rcases hk with rfl | rfl <;> omega
      · rcases hk with rfl | rfl <;> omega
      · have := (hq.ir.lt _ h).2
        rcases hk with rfl | rfl <;> omega
    case hC0 =>
      have hz := HZ.out
      have hl := HS.out.lbl
      have hs := HS.out.sbl
      obtain ⟨ys, hq, _⟩ := HS.out.q
      rintro k (h | h | h)
      · omega
      · omega
      · have := (hq.ir.lt _ h).2; omega
    case assign =>
      rintro l pre x C W K ⟨v, hI⟩ _ hK
      clear hI
      dsimp only [encP]
      gi_wp2
      exact hK _ _ (Below.refl _ _) rfl
    case body =>
      rintro l2 pre x C a' W ⟨iv, hI⟩ hx hC rfl hl hr
      obtain ⟨k, p⟩ := x
      have hpg := hI.page HNd.out HS.out.plen hx
      obtain ⟨hk96, hch2⟩ := hpg
      have hk96' : k < 96 := hk96
      have hkI : (k : Int) < 96 := by omega
      have HW : Hid (Calls Tryd.prog 45 #[.pointer (some ⟨sb, 2, none⟩), .int .i64 (k : Int)] (((W.setCell ⟨lb, k * 3, none⟩ (.bool false)).setCell ⟨lb, k * 3 + 1, none⟩ (.string ⟨#[]⟩)).setCell ⟨lb, k * 3 + 2, none⟩ (.int .i64 (-1))) fun e W' => e = .returned (.tuple #[]) ∧ Left (fun pre C W => ∃ iv, LgI w0 P N first c e0 sb lb lcap (.slice (some ⟨g, 0, none⟩) N.length nc) iv0 w.heap.size W0.heap.size pre C W iv) C (pre ++ [(k, p)]) W W') := by
        have hs3 := hI.s.wipe k noPg hk96'
        obtain ⟨ys, hq, hy⟩ := hs3.q
        have hlen : pre.length ≤ 96 := by
          obtain ⟨lf, rest, _, h2⟩ := hI.ch
          have := HLen.out
          rw [h2, List.length_append, List.length_map] at this
          omega
        refine (qPutW_any _ _ _ _ ys k hq (by omega)).mono ?_
        rintro e W' ⟨h1, iv', zs, h2, h3, h4, h5⟩
        exact ⟨h1, hI.next hC (x := (k, p)) hk96' hch2 h3 (by omega) h4 (by rw [wr3_size] at h5; exact h5)⟩
      obtain ⟨z0, z1, z2⟩ := row3_cells hI.s.lrow hI.s.plen k (by rw [hI.s.plen]; exact hk96')
      have fz : ∀ j, W.frozen? ⟨lb, j, none⟩ = false := row_frozen hI.s.lrow
      have b0 := hI.box.cell 0 _ rfl
      have c0 := hI.s.c0
      have hll := hI.s.lbl
      have hbl := hI.box.lt
      have hne : Hid (w.heap.size ≠ lb) := by
        have := HS.out.lbl; show _ ≠ _; omega
      have hn1 : ¬ (w.heap.size = lb) := hne.out
      have hn2 : ¬ (lb = w.heap.size) := fun e => hne.out e.symm
      simp only [fPg] at z0 z1 z2
      generalize ((dropP P (List.map Prod.fst pre))[k]'_).used = zu at z0
      generalize ((dropP P (List.map Prod.fst pre))[k]'_).data = zd at z1
      generalize ((dropP P (List.map Prod.fst pre))[k]'_).next = zn at z2
      clear hI hC hl hr HI0 H0 hx hch2 HChn HCh hk96
      gi_wp2_with (refine ⟨trivial, ?_⟩; gi_at_call 45; refine (CallsIn.inRound l2 (callsIn_wide.2 HW.out)).mono ?_; rintro e W' ⟨rfl, hL⟩; have HL := hide hL; clear hL)
      all_goals exact HL.out
    case done =>
      rintro d xs C W hd hS ⟨iv, hI⟩ hK
      have hPl := HS.out.plen
      have hce : c = xs.map Prod.fst := by
        obtain ⟨lf, rest, h1, h2⟩ := hI.ch
        have h0 : rest = [] := by
          rcases hS with h | h | h
          · exact chainV_lo h h1
          · exact (chainV_hi (by rw [hPl]; exact h) h1).elim
          · have h4 := HLen.out
            rw [h2, List.length_append, List.length_map] at h4
            omega
        rw [h2, h0, List.append_nil]
      have hxl : xs.length ≤ 96 := by
        have h4 := HLen.out
        rw [hce, List.length_map] at h4
        omega
      have hsl := hI.s
      rw [← hce] at hsl
      have HSl := hide (hsl.mono (show 96 + xs.length ≤ 200 by omega))
      have b0 := hI.box.cell 0 _ rfl
      have hlt := hI.lt
      have hbl := hI.box.lt
      have c1 := HSl.out.c1
      have HKd := hide hK
      have hgs : g ≠ sb := fun e => HSl.out.a6 (by rw [← e]; rfl)
      have HD : Hid (∀ W', Below W.heap.size W W' → Calls Tryd.prog 66 #[.slice (some ⟨g, 0, none⟩) N.length nc, .int .i64 (pos : Int), .int .i64 ((pos : Int) + 1)] W' fun e W2 => ∃ va vc, e = .returned (.slice va (N.length - 1) vc) ∧ W2.cell? ⟨w.heap.size, 0, none⟩ = some (.pointer (some ⟨sb, 0, none⟩)) ∧ W2.cell? ⟨sb, 1, none⟩ = some (.slice (some ⟨g, 0, none⟩) N.length nc) ∧ W2.frozen? ⟨sb, 1, none⟩ = false ∧ Hid (Slf w0 (dropP P c) (N.eraseIdx pos) sb lb lcap (.slice va (N.length - 1) vc) iv 200 (W2.setCell ⟨sb, 1, none⟩ (.slice va (N.length - 1) vc)) ∧ (W2.setCell ⟨sb, 1, none⟩ (.slice va (N.length - 1) vc)).heap[d]? = some (.deferred (some [])))) := fun W' hb => by
        have h0 := HSl.out.step hb
        refine (delN_any _ N.length pos _ W' _ h0.nrow hp (flat_oneN N)).mono ?_
        rintro e W2 ⟨v', h1, h2, h3, h4⟩
        obtain ⟨va, vc, rfl⟩ := ownsRow_form h2
        have hsb : W2.heap[sb]? = W'.heap[sb]? := h3.block sb h0.sbl (fun e => h0.a6 e.symm)
        have hdl : d < W'.heap.size := Nat.lt_of_lt_of_le (Array.getElem?_eq_some_iff.1 HKd.out).1 hb.size
        have hgl : g < W0.heap.size := hlt.2.2.2.1 g rfl
        have hbx : w.heap.size < W.heap.size := by have := hI.size; omega
        have hbw : W2.heap[w.heap.size]? = W.heap[w.heap.size]? := (h3.block _ (Nat.lt_of_lt_of_le hbx hb.size) (fun e => by simp only [Value.ownBlock, Option.some.injEq] at e; omega)).trans (hb.block _ hbx)
        refine ⟨va, vc, h1, (World.cell?_of_block (a := ⟨w.heap.size, 0, none⟩) hbw).trans b0, (World.cell?_of_block (a := ⟨sb, 1, none⟩) hsb).trans h0.c1, (World.frozen?_of_block (a := ⟨sb, 1, none⟩) hsb).trans h0.f1, h0.del pos hp h2 h3 h4, ?_⟩
        rw [Below.heap_setCell _ _ _ _ (show d ≠ sb by have := hlt.2.2.1; omega), h3.block d hdl (fun e => by simp only [Value.ownBlock, Option.some.injEq] at e; omega), hb.block d (Array.getElem?_eq_some_iff.1 HKd.out).1]
        exact HKd.out
      have hsW := HSl.out.sbl
      have hwr : IntKind.i64.wrap ((pos : Int) + 1) = (pos : Int) + 1 := by rw [IntKind.wrap_i64]; omega
      have hR0 : Hid (Below W.heap.size W W ∧ Below W.heap.size W W.drew) := ⟨Below.refl _ _, (Below.refl _ _).drew⟩
      clear hI hS hsl hce hPl HI0 H0 hK
      go_wp2_with fail
      go_region_with (go_at_call 66; with_reducible refine (HD.out _ (by first | exact hR0.out.1 | exact hR0.out.2)).mono ?_; rintro e W2 ⟨va, vc, rfl, d0, d1, d2, HX⟩)
      all_goals
        go_wp2_with fail
        show bodyPostM _ _ _ _ _ Exit.normal _ _
        refine ⟨by simp, .inl ⟨_, _, rfl, run_takeDeferred HX.out.2, ?_⟩⟩
        refine ⟨.tuple #[], results_none rfl _ _ _, rfl, _, iv, HX.out.1.move rfl rfl rfl (by simp [World.putObj]) fun k hk hk2 => ?_⟩
        exact World.putObj_heap_other (fun e => HX.out.1.notd HX.out.2 k hk2 (by have := hlt.2.2.2.2; omega) e)
    case stop =>
      rintro d c' pre C W hd _ h
      exact h.elim

end Go.Proofs.YtnahpghbodmdbaaDoor
