/- spec.l32Drop: a name let go, in pages of one's own. -/
import Derived.Test.YtnahpghbodmdbaaDoorDpC
import Derived.Test.YtnahpghbodmdbaaDoorLgS
import Derived.Test.YtnahpghbodmdbaaDoorPgS
import Derived.BigRegion
import Derived.Deep.Cut
import Derived.Deep.CutRange
import Derived.Deep.RegionWith
namespace Go.Proofs.YtnahpghbodmdbaaDoor
open Go.RowKit

/-- 'append(v, x[k:]...)' of records of three cells onto a row of one's own, at a step of a region that draws. -/
theorem step_appR {α : Type} {f : α → V3} (E ES : TypeId) (iR : TypeInfo) (zR : Value) (bR : Nat) (hu : Tryd.prog.underlying ES = some (.slice E)) (hiR : Tryd.prog.info? E = some iR) (hzR : iR.zero = some zR) (hsR : iR.size = 3) (hbR : iR.bytes = bR) (hzs : zR.cells.size = 3)
    {ops : Array Oper} {o : Oper} {a : Act} {K : Act → World → Prop} {Q : Exit → Act → World → Prop} {X : Prop} {w : World} (hgd : o.guard = none) (d x : Operand)
    (ho : o.op = .call { callee := .builtin .append, args := #[d, x], argTypes := #[ES, ES] })
    (v : Value) (n : Nat) (xs : List Value) (L : List α) (ad : Addr) (m nc base : Nat) (hd : a.eval d = v) (hx : a.eval x = .slice (some ad) m nc) (hm : L.length = m) (hown : w.ownsRow base E 3 v n xs) (hnews : ∀ j u, (flat3 f L)[j]? = some u → w.cell? (ad.add j) = some u) (hone : ∀ u ∈ flat3 f L, u.oneCell' = true) (hN : (n + m) * bR ≤ 140737488355328) (hN2 : n + m ≤ 1048576) (hbase : base ≤ w.heap.size)
    (h : ∀ a' c' w', w'.ownsRow base E 3 (.slice a' (n + m) c') (n + m) (xs ++ flat3 f L) → w.grownBy w' v.ownBlock → ((Value.slice a' (n + m) c').ownBlock = v.ownBlock ∨ (Value.slice a' (n + m) c').ownBlock = some w.heap.size) → K (a.put o.dst (.slice a' (n + m) c')) w') :
    if Region.wanted o (yielded ops a.tmps) = true then Oper.wp Tryd.prog o a w K Q else X := by
  have hw : Region.wanted o (yielded ops a.tmps) = true := by simp [Region.wanted, hgd]
  rw [if_pos hw]
  obtain ⟨mv, w', hr, h2, h3, _, h5⟩ := run_append_own_at (P := Tryd.prog) w base ES o.type E iR zR 3 bR hu hiR hzR hsR hbR hzs (by decide) v n xs hown ad m nc (flat3 f L) (by rw [flat3_length, hm]) hnews hone (by unfold maxLen; omega) hN hbase
  unfold Oper.wp execOp
  simp only [ho, resolve, invoke, builtin, Sem.run_bind, Sem.run_pure, Result.andThen_ok, List.map_toArray, List.map_cons, List.map_nil, hd, hx]
  rw [hr]
  obtain ⟨va, vc, rfl⟩ := ownsRow_form h2
  exact h va vc w' h2 h3 h5

theorem OwnRcs.wipe {α : Type} {f : α → V3} {w : World} {lo hi b : Nat} {v : Value} {l : List α} (h : OwnRcs f w lo hi b v l) {j : Nat} (hj : j < l.length) (x : α) : OwnRcs f (wr3 w b j (f x)) lo hi b v (l.set j x) := by
  obtain ⟨⟨c0, c1, c2⟩, hf⟩ := h.2.2.2 j hj
  have ne : ∀ x y : Nat, x ≠ y → (⟨b, x, none⟩ : Addr) ≠ ⟨b, y, none⟩ := fun x y h e => by injection e with _ e2 _; exact h e2
  refine h.step hj x ?_ ?_ ?_ (fun y h1 h2 h3 => ?_) (fun y => ?_)
  · unfold wr3
    rw [World.cell?_setCell_other _ _ _ _ (ne _ _ (by omega)), World.cell?_setCell_other _ _ _ _ (ne _ _ (by omega)), World.cell?_setCell_same' _ _ _ (by rw [c0]; rfl)]
  · unfold wr3
    rw [World.cell?_setCell_other _ _ _ _ (ne _ _ (by omega)), World.cell?_setCell_same' _ _ _ (by rw [World.cell?_setCell_other _ _ _ _ (ne _ _ (by omega)), c1]; rfl)]
  · unfold wr3
    rw [World.cell?_setCell_same' _ _ _ (by rw [World.cell?_setCell_other _ _ _ _ (ne _ _ (by omega)), World.cell?_setCell_other _ _ _ _ (ne _ _ (by omega)), c2]; rfl)]
  · unfold wr3
    rw [World.cell?_setCell_other _ _ _ _ (ne _ _ (by omega)), World.cell?_setCell_other _ _ _ _ (ne _ _ (by omega)), World.cell?_setCell_other _ _ _ _ (ne _ _ (by omega))]
  · unfold wr3
    rw [World.frozen?_setCell, World.frozen?_setCell, World.frozen?_setCell]

theorem RcsAt.take {α : Type} {f : α → V3} {w : World} {lo hi : Nat} {a : Option Addr} {cap : Nat} {l : List α} (h : RcsAt f w lo hi (.slice a l.length cap) l) (k : Nat) : RcsAt f w lo hi (.slice a (l.take k).length cap) (l.take k) := by
  obtain ⟨a', cap', he, hl, hc⟩ := h
  simp only [Value.slice.injEq, true_and] at he
  obtain ⟨rfl, rfl⟩ := he
  refine ⟨a, cap, rfl, by rw [List.length_take]; omega, fun h0 => ?_⟩
  rw [List.length_take] at h0
  obtain ⟨b, o, h1, h2, h3, h4⟩ := hc (by omega)
  refine ⟨b, o, h1, h2, h3, fun i hi => ?_⟩
  have hi' : i < l.length := by rw [List.length_take] at hi; omega
  have := h4 i hi'
  rwa [List.getElem_take]
theorem rcs_drop {α : Type} {f : α → V3} {w : World} {lo hi b : Nat} {v : Value} {l : List α} (h : OwnRcs f w lo hi b v l) (k : Nat) (j : Nat) (u : Value) (hu : (flat3 f (l.drop k))[j]? = some u) : w.cell? ((⟨b, k * 3, none⟩ : Addr).add j) = some u :=
  rcs_news (o := k * 3) (l := l.drop k) (fun i hi => by
    rw [List.length_drop] at hi
    have := (h.2.2.2 (k + i) (by omega)).1
    rw [List.getElem_drop]
    have e : (k + i) * 3 = k * 3 + i * 3 := by omega
    rw [e] at this
    exact this) j u hu
theorem flat3_cut {α : Type} (f : α → V3) (l : List α) (k : Nat) : flat3 f (l.take k) ++ flat3 f (l.drop (k + 1)) = flat3 f (l.eraseIdx k) := by
  rw [List.eraseIdx_eq_take_drop_succ]
  simp [flat3]

/-- Both parts of the names behind the cut. -/
theorem dp_two {wr w3 w5 : World} {N : List Pn} {pos g3 m : Nat} (hm : m = N.length - (pos + 1)) {a3 a5 : Option Addr} {c3 c5 : Nat} (h1 : Below wr.heap.size wr w3) (h2 : wr.heap.size ≤ g3) (h3 : (Value.slice a3 pos c3).ownBlock = some g3) (hpos : pos < N.length)
    (hown : w5.ownsRow wr.heap.size 68 3 (.slice a5 (pos + m) c5) (pos + m) (flat3 fPn (N.take pos) ++ flat3 fPn (N.drop (pos + 1)))) (hgr : w3.grownBy w5 (Value.slice a3 pos c3).ownBlock)
    (hor : (Value.slice a5 (pos + m) c5).ownBlock = (Value.slice a3 pos c3).ownBlock ∨ (Value.slice a5 (pos + m) c5).ownBlock = some w3.heap.size) :
    Below wr.heap.size wr w5 ∧ pos + m = (N.eraseIdx pos).length ∧ ∃ g, OwnRcs fPn w5 g (g + 1) g (.slice a5 (N.eraseIdx pos).length c5) (N.eraseIdx pos) ∧ wr.heap.size ≤ g ∧ g < w5.heap.size := by
  have hlen : pos + m = (N.eraseIdx pos).length := by rw [List.length_eraseIdx, if_pos hpos]; omega
  rw [h3] at hgr
  have hb := h1.trans (grown_below hgr h2 h1.size)
  rw [flat3_cut, hlen] at hown
  rw [hlen, h3] at hor
  obtain ⟨g, hg⟩ : ∃ g, (Value.slice a5 (N.eraseIdx pos).length c5).ownBlock = some g := by rcases hor with e | e <;> exact ⟨_, e⟩
  obtain ⟨q1, q2, q3⟩ := rcs_of_row hown hg
  exact ⟨hb, hlen, g, q1, q3, q2⟩

/-- The pages let go so far. -/
structure DpI (w W : World) (P : List Pg) (N : List Pn) (b1 b2 : Nat) (v1 v2 : Value) (oa : Option Addr) (oc : Nat) (c : List Nat) (k : Nat) (wr : World) : Prop where
  inr : InR b1 (b1 + 1) w wr
  own : OwnPgs wr b1 b2 v1 v2 (dropP P (c.take k)) N
  box : Blk wr w.heap.size #[v1, v2] 32
  res : Blk wr (w.heap.size + 1) #[.slice none 0 0, .slice none 0 0] 32
  row : wr.ownsRow W.heap.size 3 1 (.slice oa c.length oc) c.length (natsC c)
  lt : b1 < w.heap.size ∧ b2 < w.heap.size ∧ W.heap.size = w.heap.size + 2 ∧ W.heap.size ≤ wr.heap.size
theorem DpI.drew {w W : World} {P : List Pg} {N : List Pn} {b1 b2 : Nat} {v1 v2 : Value} {oa : Option Addr} {oc : Nat} {c : List Nat} {k : Nat} {wr : World} (h : DpI w W P N b1 b2 v1 v2 oa oc c k wr) : DpI w W P N b1 b2 v1 v2 oa oc c k wr.drew :=
  ⟨⟨h.inr.os, h.inr.tape, h.inr.output, h.inr.size, h.inr.block⟩, ⟨h.own.pgs, h.own.nms, h.own.ne, h.own.lt1, h.own.lt2⟩, h.box, h.res, h.row, h.lt⟩
theorem DpI.next {w W : World} {P : List Pg} {N : List Pn} {b1 b2 : Nat} {v1 v2 : Value} {oa : Option Addr} {oc : Nat} {c : List Nat} {k : Nat} {wr : World} (h : DpI w W P N b1 b2 v1 v2 oa oc c k wr) (hk : k < c.length) (hc : c[k] < P.length) : DpI w W P N b1 b2 v1 v2 oa oc c (k + 1) (wr3 wr b1 c[k] (fPg noPg)) := by
  have hz := wr3_size wr b1 c[k] (fPg noPg)
  have ho := wr3_other wr b1 c[k] (fPg noPg)
  obtain ⟨l1, l2, l3, l4⟩ := h.lt
  have e : dropP P (c.take (k + 1)) = (dropP P (c.take k)).set c[k] noPg := by
    rw [List.take_add_one, List.getElem?_eq_getElem hk]
    show dropP P (c.take k ++ [c[k]]) = _
    rw [dropP_snoc]
  refine ⟨⟨h.inr.os, h.inr.tape, h.inr.output, by rw [hz]; exact h.inr.size, fun j h1 h2 => (ho j (by omega)).trans (h.inr.block j h1 h2)⟩, ⟨by rw [e]; exact h.own.pgs.wipe (by rw [dropP_length]; exact hc) noPg, h.own.nms.same (fun _ => ho b2 (fun e => h.own.ne e.symm)), h.own.ne, by rw [hz]; exact h.own.lt1, by rw [hz]; exact h.own.lt2⟩, (ho _ (by omega)).trans h.box, (ho _ (by omega)).trans h.res, ownsRow_same h.row fun g hg => ho g (fun e => by have := (h.row.lt g hg).1; omega), l1, l2, l3, by rw [hz]; exact l4⟩

theorem dp_end {w W wr w5 : World} {P : List Pg} {N : List Pn} {b1 b2 pos n : Nat} {v1 v2 x y z : Value} {oa : Option Addr} {oc : Nat} {c : List Nat} {a5 : Option Addr} {c5 : Nat} (h : DpI w W P N b1 b2 v1 v2 oa oc c c.length wr) (h5 : Below wr.heap.size wr w5 ∧ n = (N.eraseIdx pos).length ∧ ∃ g, OwnRcs fPn w5 g (g + 1) g (.slice a5 (N.eraseIdx pos).length c5) (N.eraseIdx pos) ∧ wr.heap.size ≤ g ∧ g < w5.heap.size) :
    ∃ g a' k', Ending.returned (.agg #[v1, .slice a5 n c5]) = .returned (.agg #[v1, .slice a' (N.eraseIdx pos).length k']) ∧ OwnPgs (((w5.setCell ⟨w.heap.size, 1, none⟩ x).setCell ⟨w.heap.size + 1, 0, none⟩ y).setCell ⟨w.heap.size + 1, 1, none⟩ z) b1 g v1 (.slice a' (N.eraseIdx pos).length k') (dropP P c) (N.eraseIdx pos) ∧ InR b1 (b1 + 1) w (((w5.setCell ⟨w.heap.size, 1, none⟩ x).setCell ⟨w.heap.size + 1, 0, none⟩ y).setCell ⟨w.heap.size + 1, 1, none⟩ z) ∧ w.heap.size ≤ g := by
  obtain ⟨hb, rfl, g, h1, h2, h3⟩ := h5
  obtain ⟨l1, l2, l3, l4⟩ := h.lt
  have ho := h.own.below hb
  have hz : (((w5.setCell ⟨w.heap.size, 1, none⟩ x).setCell ⟨w.heap.size + 1, 0, none⟩ y).setCell ⟨w.heap.size + 1, 1, none⟩ z).heap.size = w5.heap.size := by simp [World.setCell]
  have hk : ∀ j, j ≠ w.heap.size → j ≠ w.heap.size + 1 → (((w5.setCell ⟨w.heap.size, 1, none⟩ x).setCell ⟨w.heap.size + 1, 0, none⟩ y).setCell ⟨w.heap.size + 1, 1, none⟩ z).heap[j]? = w5.heap[j]? := fun j e1 e2 => by
    rw [Below.heap_setCell _ _ _ _ e2, Below.heap_setCell _ _ _ _ e2, Below.heap_setCell _ _ _ _ e1]
  have hi := h.inr.below hb
  have hp := ho.pgs
  rw [List.take_length] at hp
  refine ⟨g, a5, c5, rfl, ⟨hp.same (fun _ => hk b1 (by omega) (by omega)), h1.same (fun _ => hk g (by omega) (by omega)), by omega, by rw [hz]; exact ho.lt1, by rw [hz]; exact h3⟩, ⟨hi.os, hi.tape, hi.output, by rw [hz]; exact hi.size, fun j hj hn => (hk j (by omega) (by omega)).trans (hi.block j hj hn)⟩, by omega⟩

set_option maxRecDepth 100000 in
set_option maxHeartbeats 4000000 in
theorem l32Drop_any (P : List Pg) (N : List Pn) (a1 a2 : Option Addr) (k1 k2 b1 b2 pos m : Nat) (c : List Nat) (e0 : Int) (w : World) (ho : OwnPgs w b1 b2 (.slice a1 P.length k1) (.slice a2 N.length k2) P N) (hP : P.length = 96) (hN : N.length ≤ 16) (hcap : N.length ≤ k2)
    (hs : ∀ (i : Nat) (h : i < P.length), P[i].data.size ≤ maxLen) (hpos : pos < N.length) (hm : N[pos].size = (m : Int)) (hm2 : m ≤ 3000) (hch : chainV P N[pos].first m = some (c, e0)) :
    Calls Tryd.prog 27 #[.agg #[.slice a1 P.length k1, .slice a2 N.length k2], .int .i64 (pos : Int)] w fun e w' => ∃ g a' k', e = .returned (.agg #[.slice a1 P.length k1, .slice a' (N.eraseIdx pos).length k']) ∧ OwnPgs w' b1 g (.slice a1 P.length k1) (.slice a' (N.eraseIdx pos).length k') (dropP P c) (N.eraseIdx pos) ∧ InR b1 (b1 + 1) w w' ∧ w.heap.size ≤ g := by
  have hpr := ho.pgs.rcs.wide (Nat.zero_le _) (show b1 + 1 ≤ w.heap.size by have := ho.lt1; omega)
  have HCh := hide (fun (W : World) (hW : Below w.heap.size w W) => l32Chain_any P (.slice a1 P.length k1) (.slice a2 N.length k2) N[pos].name N[pos].first m W 0 w.heap.size (hpr.keep hW (Nat.le_refl _)) hW.size hP hm2 hs ⟨_, _, _, rfl⟩)
  have hce := (chainV_end P m _ m c e0 (Nat.le_refl _) hch).2.2
  have hcl := (chainV_len P m _ m c e0 (Nat.le_refl _) hch).1
  obtain ⟨⟨_, _, ha1, hb1⟩, _⟩ := ho.pgs
  simp only [Value.slice.injEq] at ha1
  obtain ⟨rfl, _, rfl⟩ := ha1
  obtain rfl := hb1 (by omega)
  obtain ⟨⟨_, _, ha2, hb2⟩, _⟩ := ho.nms
  simp only [Value.slice.injEq] at ha2
  obtain ⟨rfl, _, rfl⟩ := ha2
  obtain rfl := hb2 (by omega)
  obtain ⟨⟨y0, y1, y2⟩, _⟩ := ho.nms.2.2.2 pos hpos
  simp only [fPn] at y0 y1 y2
  rw [hm] at y2
  have hposI : (pos : Int) < (N.length : Int) := by omega
  have hbl := ho.lt2
  have HO := hide ho
  have HCe := hide hce
  have HCl := hide hcl
  have HChv := hide hch
  have HPl := hide hP

  clear hs hm hce hcl hpr ho hb1 hb2
  rw [hP] at HCh HO ⊢
  generalize N[pos].name = nm at *
  generalize N[pos].first = fst at *
  go_enter Tryd.func27, Tryd.ntmps27
  go_wp2_with fail
  generalize hW : (w.alloc (.cells #[.slice (some ⟨b1, 0, none⟩) 96 k1, .slice (some ⟨b2, 0, none⟩) N.length k2] 32)).alloc (.cells #[.slice none 0 0, .slice none 0 0] 32) = W
  have HW : Hid (Below w.heap.size w W ∧ Blk W w.heap.size #[.slice (some ⟨b1, 0, none⟩) 96 k1, .slice (some ⟨b2, 0, none⟩) N.length k2] 32 ∧ Blk W (w.heap.size + 1) #[.slice none 0 0, .slice none 0 0] 32 ∧ W.heap.size = w.heap.size + 2) := by
    subst hW
    exact ⟨((Below.refl _ _).alloc (Nat.le_refl _) _).alloc (by simp) _, (Blk.new w _ _).alloc _, Blk.atn (by simp), by simp⟩
  have x0 := HW.out.2.1.cell 0 _ rfl
  have x1 := HW.out.2.1.cell 1 _ rfl
  rw [← HW.out.1.cell (p := ⟨b2, _, none⟩) hbl] at y0 y1 y2
  clear hW
  go_cut [5] from 9 to 17 (fun x wx => ∃ oa oc, x = .slice oa c.length oc ∧ Hid (Below W.heap.size W wx ∧ wx.ownsRow W.heap.size 3 1 (.slice oa c.length oc) c.length (natsC c)))
  case first =>
    have hB0 : Hid (Below W.heap.size W W.drew) := (Below.refl _ _).drew
    go_region_with (go_at_call 38
                    refine (HCh.out _ (by first | exact HW.out.1.drew | exact HW.out.1)).mono ?_
                    rintro e w1 ⟨oa, on, oc, bb, rfl, hB1, _, hyes⟩
                    obtain ⟨rfl, rfl, hrow⟩ := hyes _ HChv.out
                    have HRow := hide hrow
                    have HB1 : Hid (Below W.heap.size W w1) := (by first | exact hB1 | exact undrewB hB1)
                    clear hrow hyes hB1)
    all_goals
      go_wp2_with fail
      go_meet
      exact ⟨_, _, rfl, HB1.out, HRow.out⟩
  case rest =>
    obtain ⟨oa, oc, rfl, H1⟩ := hcut
    rename World => w1
    have HI0 : Hid (DpI w W P N b1 b2 (.slice (some ⟨b1, 0, none⟩) 96 k1) (.slice (some ⟨b2, 0, none⟩) N.length k2) oa oc c 0 w1) := by
      have hb := HW.out.1.trans (H1.out.1.mono HW.out.1.size)
      exact ⟨InR.of_below hb, HO.out.below hb, HW.out.2.1.below H1.out.1 HW.out.2.1.lt, HW.out.2.2.1.below H1.out.1 HW.out.2.2.1.lt, H1.out.2, HO.out.lt1, HO.out.lt2, HW.out.2.2.2, H1.out.1.size⟩
    have hc75 : c.length ≤ 75 := by have := HCl.out; omega
    clear x0 x1 y0 y1 y2 H1 HCh HCl
    go_wp2_with fail
    go_loopw [7] (fun i wr => ∃ (k : Nat), k ≤ c.length ∧ i = .int .i64 k ∧ Hid (DpI w W P N b1 b2 (.slice (some ⟨b1, 0, none⟩) 96 k1) (.slice (some ⟨b2, 0, none⟩) N.length k2) oa oc c k wr)) (fun i _ => c.length - (intOf i).toNat)
    case atStart => exact ⟨0, Nat.zero_le _, rfl, HI0⟩
    case round =>
      obtain ⟨k, hk, rfl, HB⟩ := hrel
      clear HI0
      have x0 := HB.out.box.cell 0 _ rfl
      have x1 := HB.out.box.cell 1 _ rfl
      by_cases hlt : k < c.length
      · have hltI : (k : Int) < (c.length : Int) := by omega
        have hck := HCe.out c[k] (List.getElem_mem hlt)
        have hpg := HB.out.own.pgs.2.2.2 c[k] (by rw [dropP_length]; exact hck)
        obtain ⟨⟨z0, z1, z2⟩, fz⟩ := hpg
        obtain ⟨g, hg, hgc⟩ : ∃ g, oa = some ⟨g, 0, none⟩ ∧ wr.cell? ⟨g, k, none⟩ = some (.int .i64 (c[k] : Int)) := by
          have hr := HB.out.row
          rcases hr.2 with ⟨_, h0⟩ | ⟨g, cap, cur, he, _⟩
          · omega
          · simp only [Value.slice.injEq] at he
            refine ⟨g, he.1, ?_⟩
            have hr' := hr
            rw [he.1] at hr'
            have := hr'.cells (g := g) rfl k (.int .i64 (c[k] : Int)) (by simp [natsC, hlt])
            have ea : (⟨g, 0, none⟩ : Addr).add k = ⟨g, k, none⟩ := by cases k <;> simp [Addr.add]
            rwa [ea] at this
        subst hg
        have hckI : ((c[k] : Nat) : Int) < 96 := by have := HPl.out; omega
        have hckN : c[k] < 96 := by have := HPl.out; omega
        have HN := hide (HB.out.next hlt hck)
        simp only [fPg] at z0 z1 z2
        generalize ((dropP P (c.take k))[c[k]]'_).used = zu at z0
        generalize ((dropP P (c.take k))[c[k]]'_).data = zd at z1
        generalize ((dropP P (c.take k))[c[k]]'_).next = zn at z2
        generalize c[k] = a at hck hckI hckN hgc z0 z1 z2 HN
        go_wp2_with fail
        go_region
        go_wp2_with fail
        go_roundw
        case rel => exact ⟨k + 1, by omega, by go_num, HN.out.drew⟩
        case measure => simp [intOf]; omega
      · obtain rfl : k = c.length := by omega
        have hIf := HB.out
        have HF : Hid (DpI w W P N b1 b2 (.slice (some ⟨b1, 0, none⟩) 96 k1) (.slice (some ⟨b2, 0, none⟩) N.length k2) oa oc c c.length wr) := HB.out
        clear hIf HB
        have HX : Hid (∀ W', Below wr.heap.size wr W' → W'.cell? ⟨w.heap.size, 0, none⟩ = some (.slice (some ⟨b1, 0, none⟩) 96 k1) ∧ W'.cell? ⟨w.heap.size, 1, none⟩ = some (.slice (some ⟨b2, 0, none⟩) N.length k2) ∧ W'.frozen? ⟨w.heap.size, 1, none⟩ = false ∧ w.heap.size < W'.heap.size) := fun W' hb => by
          have q := HF.out.box.below hb HF.out.box.lt
          exact ⟨q.cell 0 _ rfl, q.cell 1 _ rfl, q.frozen 1, q.lt⟩
        have HNm : Hid (∀ W', Below wr.heap.size wr W' → OwnRcs fPn W' b2 (b2 + 1) b2 (.slice (some ⟨b2, 0, none⟩) N.length k2) N) := fun W' hb => (HF.out.own.below hb).nms
        have HA : Hid (∀ o, Below wr.heap.size wr (wr.alloc o)) := fun o => (Below.refl _ _).alloc (Nat.le_refl _) o
        have HTl : Hid ((N.take pos).length = pos) := by show _ = _; rw [List.length_take]; omega
        obtain ⟨iN, hiN', hzN, hsN, hbN⟩ := info_pname
        have hiN := hide hiN'
        clear hiN'
        have hwr : IntKind.i64.wrap ((pos : Int) + 1) = (pos : Int) + 1 := by rw [IntKind.wrap_i64]; omega
        have hq1 : (pos : Int) ≤ (k2 : Int) := by omega
        have hq2 : (pos : Int) + 1 ≤ (N.length : Int) := by omega
        have hq3 : (N.length : Int) ≤ (k2 : Int) := by omega
        have hq4 : (0 : Int) ≤ (pos : Int) + 1 := by omega
        have hq5 : ((pos : Int) + 1).toNat = pos + 1 := by omega
        have xl := HF.out.box.lt
        by_cases hcp : k2 = pos + 1
        case pos =>
          subst hcp
          have hq6 : (pos : Int) ≤ (pos : Int) + 1 := by omega
          have hq7 : (N.length : Int) ≤ (pos : Int) + 1 := by omega
          go_wp2_with fail
          go_region_law (first
            | (refine step_copyR (f := fPn) 68 30 iN _ 32 Tryd.underlying30 hiN.out hzN hsN hbN rfl rfl (.tmp 32) (.tmp 36) rfl (N.take pos) (some ⟨b2, 0, none⟩) (pos + 1) b2 (b2 + 1) wr.heap.size wr.heap.size (by rfl) (by rw [HTl.out]; rfl) (by exact Blk.drewI (Blk.new _ _ _)) (Nat.le_refl _) (((HNm.out _ (HA.out _).drew).rcs.take pos)) (flat_oneN _) (by rw [HTl.out]; omega) (by rw [HTl.out]; omega) (by simp) ?_
               intro a3 c3 w3 g3 hown hgr hat hor
               rw [HTl.out] at hown hat ⊢
               have H3 : Hid (Below wr.heap.size wr w3 ∧ w3.ownsRow wr.heap.size 68 3 (.slice a3 pos c3) pos (flat3 fPn (N.take pos)) ∧ wr.heap.size ≤ g3 ∧ (Value.slice a3 pos c3).ownBlock = some g3) := ⟨(HA.out _).drew.trans (grown_below hgr (Nat.le_refl _) (by simp)), hown, (hown.lt g3 hat).1, hat⟩
               obtain ⟨p0, p1, p2, pl⟩ := HX.out w3 H3.out.1
               clear hown hgr hat hor)
            | (refine step_appR (f := fPn) 68 30 iN _ 32 Tryd.underlying30 hiN.out hzN hsN hbN rfl rfl (.tmp 37) (.tmp 42) rfl (.slice a3 pos c3) pos _ (N.drop (pos + 1)) ⟨b2, 0, none⟩ 0 _ wr.heap.size (by rfl) (by rfl) (by rw [List.length_drop]; omega) H3.out.2.1 (fun j u hu => by rw [List.drop_eq_nil_of_le (by omega)] at hu; simp [flat3] at hu) (flat_oneN _) (by omega) (by omega) H3.out.1.size ?_
               intro a5 c5 w5 hown hgr hor
               have H5 := hide (dp_two (by omega) H3.out.1 H3.out.2.2.1 H3.out.2.2.2 hpos hown hgr hor)
               obtain ⟨s0, s1, s2, sl⟩ := HX.out w5 H5.out.1
               have hrs := HF.out.res.below H5.out.1 HF.out.res.lt
               have r0 := hrs.cell 0 _ rfl
               have r1 := hrs.cell 1 _ rfl
               have t0 := hrs.frozen 0
               have t1 := hrs.frozen 1
               clear hown hgr hor hrs))
          all_goals
            go_wp2_with fail
            refine bodyPost_ret (v := .agg #[.slice (some ⟨b1, 0, none⟩) 96 k1, .slice a5 (pos + 0) c5]) (by simp [results, Tryd.results27, go_sem, r0, r1]) rfl ?_
            exact dp_end HF.out H5.out
        case neg =>
          go_wp2_with fail
          go_region_law (first
            | (refine step_copyR (f := fPn) 68 30 iN _ 32 Tryd.underlying30 hiN.out hzN hsN hbN rfl rfl (.tmp 32) (.tmp 36) rfl (N.take pos) (some ⟨b2, 0, none⟩) k2 b2 (b2 + 1) wr.heap.size wr.heap.size (by rfl) (by rw [HTl.out]; rfl) (by exact Blk.drewI (Blk.new _ _ _)) (Nat.le_refl _) (((HNm.out _ (HA.out _).drew).rcs.take pos)) (flat_oneN _) (by rw [HTl.out]; omega) (by rw [HTl.out]; omega) (by simp) ?_
               intro a3 c3 w3 g3 hown hgr hat hor
               rw [HTl.out] at hown hat ⊢
               have H3 : Hid (Below wr.heap.size wr w3 ∧ w3.ownsRow wr.heap.size 68 3 (.slice a3 pos c3) pos (flat3 fPn (N.take pos)) ∧ wr.heap.size ≤ g3 ∧ (Value.slice a3 pos c3).ownBlock = some g3) := ⟨(HA.out _).drew.trans (grown_below hgr (Nat.le_refl _) (by simp)), hown, (hown.lt g3 hat).1, hat⟩
               obtain ⟨p0, p1, p2, pl⟩ := HX.out w3 H3.out.1
               clear hown hgr hat hor)
            | (refine step_appR (f := fPn) 68 30 iN _ 32 Tryd.underlying30 hiN.out hzN hsN hbN rfl rfl (.tmp 37) (.tmp 42) rfl (.slice a3 pos c3) pos _ (N.drop (pos + 1)) ⟨b2, (pos + 1) * 3, none⟩ (N.length - (pos + 1)) _ wr.heap.size (by rfl) (by rfl) (by rw [List.length_drop]) H3.out.2.1 (rcs_drop (HNm.out _ H3.out.1) (pos + 1)) (flat_oneN _) (by omega) (by omega) H3.out.1.size ?_
               intro a5 c5 w5 hown hgr hor
               have H5 := hide (dp_two rfl H3.out.1 H3.out.2.2.1 H3.out.2.2.2 hpos hown hgr hor)
               obtain ⟨s0, s1, s2, sl⟩ := HX.out w5 H5.out.1
               have hrs := HF.out.res.below H5.out.1 HF.out.res.lt
               have r0 := hrs.cell 0 _ rfl
               have r1 := hrs.cell 1 _ rfl
               have t0 := hrs.frozen 0
               have t1 := hrs.frozen 1
               clear hown hgr hor hrs))
          all_goals
            go_wp2_with fail
            refine bodyPost_ret (v := .agg #[.slice (some ⟨b1, 0, none⟩) 96 k1, .slice a5 (pos + (N.length - (pos + 1))) c5]) (by simp [results, Tryd.results27, go_sem, r0, r1]) rfl ?_
            exact dp_end HF.out H5.out

end Go.Proofs.YtnahpghbodmdbaaDoor
