/- PagesDrop, the program's. -/
import Derived.Test.YtnahpghbodmdbaaDoorLgG
import Derived.Test.YtnahpghbodmdbaaDoorPgD
import Derived.Test.YtnahpghbodmdbaaDoorCode
import Derived.Test.YtnahpghbodmdbaaDoorGtF
import Derived.Test.YtnahpghbodmdbaaDoorPgh
namespace Go.Proofs.YtnahpghbodmdbaaDoor
open Go.RowKit

/-- What both answer. -/
structure DropR (P : List Pg) (N : List Pn) (s : ByteArray) (P' : List Pg) (N' : List Pn) (k : Int) : Prop where
  no : okV P N = none → P' = [] ∧ N' = [] ∧ k = 1
  out : ∀ T, okV P N = some T → (∀ (i : Nat) (h : i < N.length), N[i].name ≠ s) → P' = P ∧ N' = N ∧ k = 3
  yes : ∀ T, okV P N = some T → ∀ (i : Nat) (h : i < N.length), N[i].name = s → k = 0 ∧ N' = N.eraseIdx i ∧ ∀ c e, chainV P N[i].first N[i].size.toNat = some (c, e) → P' = dropP P c
theorem DropR.same {P : List Pg} {N : List Pn} {s : ByteArray} {P' P'' : List Pg} {N' N'' : List Pn} {k k' : Int} (h : DropR P N s P' N' k) (h' : DropR P N s P'' N'' k') : P'' = P' ∧ N'' = N' ∧ k' = k := by
  cases hk : okV P N with
  | none =>
    obtain ⟨rfl, rfl, rfl⟩ := h.no hk
    obtain ⟨rfl, rfl, rfl⟩ := h'.no hk
    exact ⟨rfl, rfl, rfl⟩
  | some T =>
    by_cases hi : ∃ (i : Nat) (h : i < N.length), N[i].name = s
    · obtain ⟨i, hl, he⟩ := hi
      obtain ⟨c, e, hc⟩ := (okV_nms hk).chain i hl
      obtain ⟨rfl, rfl, g1⟩ := h.yes T hk i hl he
      obtain ⟨rfl, rfl, g2⟩ := h'.yes T hk i hl he
      exact ⟨by rw [g1 c e hc, g2 c e hc], rfl, rfl⟩
    · have hn : ∀ (i : Nat) (h : i < N.length), N[i].name ≠ s := fun i hl he => hi ⟨i, hl, he⟩
      obtain ⟨rfl, rfl, rfl⟩ := h.out T hk hn
      obtain ⟨rfl, rfl, rfl⟩ := h'.out T hk hn
      exact ⟨rfl, rfl, rfl⟩
theorem DropR.mkNo {P : List Pg} {N : List Pn} {s : ByteArray} (h : okV P N = none) : DropR P N s [] [] 1 := ⟨fun _ => ⟨rfl, rfl, rfl⟩, fun T hT => (by rw [h] at hT; cases hT), fun T hT => (by rw [h] at hT; cases hT)⟩
theorem DropR.mkOut {P : List Pg} {N : List Pn} {s : ByteArray} {T : List Bool} (hT : okV P N = some T) (hn : ∀ (i : Nat) (h : i < N.length), N[i].name ≠ s) : DropR P N s P N 3 := ⟨fun h => (by rw [hT] at h; cases h), fun _ _ _ => ⟨rfl, rfl, rfl⟩, fun _ _ i h he => (hn i h he).elim⟩
theorem DropR.mkYes {P : List Pg} {N : List Pn} {s : ByteArray} {T : List Bool} (hT : okV P N = some T) {i : Nat} (h : i < N.length) (he : N[i].name = s) {c : List Nat} {e : Int} (hc : chainV P N[i].first N[i].size.toNat = some (c, e)) : DropR P N s (dropP P c) (N.eraseIdx i) 0 := by
  refine ⟨fun h0 => (by rw [hT] at h0; cases h0), fun _ _ hn => (hn i h he).elim, fun _ _ j hj hje => ?_⟩
  have hij : i = j := by
    have ha := (okV_nms hT).asc
    rcases Nat.lt_trichotomy i j with hl | hl | hl
    · have := ha i j (by simpa using h) (by simpa using hj) hl
      simp only [List.getElem_map, he, hje] at this
      rw [less_irrefl] at this; cases this
    · exact hl
    · have := ha j i (by simpa using hj) (by simpa using h) hl
      simp only [List.getElem_map, he, hje] at this
      rw [less_irrefl] at this; cases this
  subst hij
  refine ⟨rfl, rfl, fun c' e' hc' => ?_⟩
  rw [hc] at hc'
  cases hc'
  rfl

theorem Slf.own {w0 : World} {P : List Pg} {N : List Pn} {sb lb lcap : Nat} {mv iv : Value} {nq : Nat} {W : World} (h : Slf w0 P N sb lb lcap mv iv nq W) : ∃ b2, OwnPgs W lb b2 (.slice (some ⟨lb, 0, none⟩) 96 lcap) mv P N ∧ w0.heap.size ≤ lb ∧ w0.heap.size ≤ b2 := by
  have hl := h.lbl
  have hs := h.sbl
  have h1 := h.lrow
  rw [← h.plen] at h1
  obtain ⟨b1, o1, e1⟩ := ownRcs_row h1
  have eb : b1 = lb := by
    have := e1 (by have := h.plen; omega)
    simp only [Value.ownBlock, Option.some.injEq] at this
    exact this.symm
  subst eb
  rw [h.plen] at o1
  obtain ⟨b2, o2, e2⟩ := ownRcs_row h.nrow
  by_cases h0 : 0 < N.length
  · have hb2 := e2 h0
    have hlt := h.nrow.lt b2 hb2
    exact ⟨b2, ⟨o1.one, o2.one, fun e => h.a1 (by rw [hb2, e]), hl.2, hlt.2⟩, by omega, by omega⟩
  · have hN : N = [] := List.eq_nil_of_length_eq_zero (by omega)
    subst hN
    obtain ⟨⟨a, cap, rfl, _⟩, _⟩ := o2
    have := h.ord
    exact ⟨sb, ⟨o1.one, OwnRcs.nil _ _ _ _ _ _ _, h.a5, hl.2, hs⟩, by omega, by omega⟩

set_option maxHeartbeats 2000000 in
theorem drop_any (w0 : World) (P : List Pg) (N : List Pn) (s : ByteArray) (sb lb lcap : Nat) (mv iv : Value) (T : List Bool) (w : World) (hk : okV P N = some T) (hS : Slf w0 P N sb lb lcap mv iv 96 w) :
    Calls Tryd.prog 28 #[.pointer (some ⟨sb, 0, none⟩), .string s] w fun e w' => ∃ ev P' N' k mv' iv', e = .returned ev ∧ ((ev = .nilIface ∧ k = 0) ∨ (ev = .iface 79 (.agg #[.int .i64 3]) ∧ k = 3)) ∧ DropR P N s P' N' k ∧ Slf w0 P' N' sb lb lcap mv' iv' 200 w' := by
  have HS := hide hS
  have HNm := hide (okV_nms hk)
  have HK := hide hk
  obtain ⟨nb, hNo, _⟩ := ownRcs_row hS.nrow
  have HF := hide (find_any N HNm.out.asc _ s sb w _ _ hNo.rcs (Nat.le_refl _) HNm.out.few hS.c1)
  clear hNo hS hk
  go_enter Tryd.func28, Tryd.ntmps28
  go_wp2_with fail
  refine HF.out.mono ?_
  rintro e w1 ⟨pos, rfl, hFd, hB1⟩
  have HFd := hide hFd
  have HS1 := hide (HS.out.step hB1)
  clear hFd hB1 HF
  cases hh : hasB (N.map Pn.name) s with
  | false =>
    have HR : Hid (DropR P N s P N 3) := DropR.mkOut HK.out fun i hi he => HFd.out.no hh i (by simpa using hi) (by simpa using he)
    clear hh
    go_wp2_with fail
    go_ret
    exact ⟨_, P, N, 3, mv, iv, rfl, .inr ⟨rfl, rfl⟩, HR.out, HS1.out.mono (by decide)⟩
  | true =>
    obtain ⟨hpl0, hpe0⟩ := HFd.out.yes hh
    have hpl : pos < N.length := by simpa using hpl0
    have hpe : N[pos].name = s := by simpa using hpe0
    obtain ⟨c, e0, hch⟩ := HNm.out.chain pos hpl
    have HR : Hid (DropR P N s (dropP P c) (N.eraseIdx pos) 0) := DropR.mkYes HK.out hpl hpe hch
    have HL := hide (letGo_any w0 P N sb lb lcap mv iv pos N[pos].size.toNat c e0 w1 HS1.out hpl HNm.out.few (by have := HNm.out.size pos hpl; omega) hch (okV_nodup HK.out pos hpl hch).1)
    clear hh hpl0 hpe0 hpe hch
    go_wp2_with fail
    refine HL.out.mono ?_
    rintro e w2 ⟨rfl, mv', iv', hS2⟩
    have HS2 := hide hS2
    clear hS2
    go_wp2_with fail
    go_ret
    exact ⟨_, _, _, 0, mv', iv', rfl, .inl ⟨rfl, rfl⟩, HR.out, HS2.out⟩

/-- What PagesDrop answers. -/
def DropPost (P : List Pg) (N : List Pn) (s : ByteArray) (w : World) (e : Ending) (w' : World) : Prop :=
  ∃ b1 b2 v1 v2 P' N' k, e = .returned (.tuple #[.agg #[v1, v2], .int .i64 k]) ∧ DropR P N s P' N' k ∧ OwnPgs w' b1 b2 v1 v2 P' N' ∧ w.heap.size ≤ b1 ∧ w.heap.size ≤ b2 ∧ Below w.heap.size w w'

set_option maxHeartbeats 4000000 in
theorem implDrop_any (P : List Pg) (N : List Pn) (pv nv : Value) (s : ByteArray) (w : World) (lo hi : Nat) (hp : RcsAt fPg w lo hi pv P) (hn : RcsAt fPn w lo hi nv N) (hhi : hi ≤ w.heap.size)
    (hs : ∀ (i : Nat) (h : i < P.length), P[i].data.size ≤ maxLen) (hsn : ∀ (i : Nat) (h : i < N.length), N[i].name.size ≤ maxLen) (hg : Laid0 w) :
    Calls Tryd.prog 11 #[.agg #[pv, nv], .string s] w (fun e w' => DropPost P N s w e w') := by
  have HSh := hide (fun (W : World) (hW : Below w.heap.size w W) => shelfOf_any P N pv nv W lo hi (hp.keep hW hhi) (hn.keep hW hhi) (Nat.le_trans hhi hW.size) hs hsn)
  obtain ⟨pa, pl, pc, rfl⟩ : ∃ a n c, pv = .slice a n c := by obtain ⟨a, c, e, _⟩ := hp; exact ⟨_, _, _, e⟩
  obtain ⟨na, nl, nc, rfl⟩ : ∃ a n c, nv = .slice a n c := by obtain ⟨a, c, e, _⟩ := hn; exact ⟨_, _, _, e⟩
  have HG := hide hg
  have HGl := hide hg.lt
  clear hp hn hg
  go_enter Tryd.func11, Tryd.ntmps11
  go_wp2_with fail
  generalize hW : (w.alloc (.cells #[.slice pa pl pc, .slice na nl nc] 32)).alloc (.cells #[.slice none 0 0, .slice none 0 0] 32) = W
  have HW : Hid (Below w.heap.size w W ∧ Blk W (w.heap.size + 1) #[.slice none 0 0, .slice none 0 0] 32 ∧ W.heap.size = w.heap.size + 2) := by
    subst hW
    exact ⟨((Below.refl _ _).alloc (Nat.le_refl _) _).alloc (by simp) _, Blk.atn (by simp), by simp⟩
  clear hW
  refine (HSh.out W HW.out.1).mono ?_
  rintro e w1 ⟨hB1, hno, hyes⟩
  have HB1 : Hid (Below w.heap.size w w1 ∧ Blk w1 (w.heap.size + 1) #[.slice none 0 0, .slice none 0 0] 32 ∧ w.heap.size + 2 ≤ w1.heap.size) := ⟨HW.out.1.trans (hB1.mono HW.out.1.size), HW.out.2.1.below hB1 HW.out.2.1.lt, by have := hB1.size; have := HW.out.2.2; omega⟩
  cases hk : okV P N with
  | none =>
    obtain rfl := hno hk
    have HR := hide (DropR.mkNo (s := s) hk)
    have HC := hide (fun (W : World) (h : Below w1.heap.size w1 W) => codeOf_ref 1 W ((HG.out.below HB1.out.1 HGl.out).below h (Nat.lt_of_lt_of_le HGl.out HB1.out.1.size)))
    clear hB1 hno hyes
    go_wp2_with fail
    refine (HC.out _ (Below.refl _ _)).mono ?_
    rintro e w2 ⟨rfl, hB2⟩
    have HB2 := hide hB2
    clear hB2
    go_wp2_with fail
    refine (HC.out _ HB2.out).mono ?_
    rintro e w3 ⟨rfl, hB3⟩
    have HB3 : Hid (Below w.heap.size w w3 ∧ Blk w3 (w.heap.size + 1) #[.slice none 0 0, .slice none 0 0] 32 ∧ w.heap.size + 2 ≤ w3.heap.size) := by
      have hb := HB2.out.trans (hB3.mono HB2.out.size)
      exact ⟨HB1.out.1.trans (hb.mono HB1.out.1.size), HB1.out.2.1.below hb HB1.out.2.1.lt, by have := hb.size; have := HB1.out.2.2; omega⟩
    clear hB3
    have c0 := HB3.out.2.1.cell 0 _ rfl
    have c1 := HB3.out.2.1.cell 1 _ rfl
    have f0 := HB3.out.2.1.frozen 0
    have f1 := HB3.out.2.1.frozen 1
    go_wp2_with fail
    have hb : Below w.heap.size w ((w3.setCell ⟨w.heap.size + 1, 0, none⟩ (.slice none 0 0)).setCell ⟨w.heap.size + 1, 1, none⟩ (.slice none 0 0)) := (HB3.out.1.setCell (p := ⟨w.heap.size + 1, 0, none⟩) (Nat.le_succ _) _).setCell (p := ⟨w.heap.size + 1, 1, none⟩) (Nat.le_succ _) _
    have hz : ((w3.setCell ⟨w.heap.size + 1, 0, none⟩ (.slice none 0 0)).setCell ⟨w.heap.size + 1, 1, none⟩ (.slice none 0 0)).heap.size = w3.heap.size := by simp [World.setCell]
    refine bodyPost_ret (v := .tuple #[.agg #[.slice none 0 0, .slice none 0 0], .int .i64 1]) (by simp [results, Tryd.results11, go_sem, c0, c1]) rfl ?_
    exact ⟨w.heap.size, w.heap.size + 1, _, _, [], [], 1, rfl, HR.out, ⟨OwnRcs.nil _ _ _ _ _ _ _, OwnRcs.nil _ _ _ _ _ _ _, by omega, by have := HB3.out.2.2; omega, by have := HB3.out.2.2; omega⟩, Nat.le_refl _, Nat.le_succ _, hb⟩
  | some T =>
    obtain ⟨sb, lb, lcap, mv, tb, tt, iv, rfl, hT⟩ := hyes T hk
    have HC := hide (codeOf_nil w1)
    have HT := hide hT
    have HK := hide hk
    clear hB1 hno hyes hT hk
    go_wp2_with fail
    refine HC.out.mono ?_
    rintro e w2 ⟨rfl, hB2⟩
    have HB2 := hide hB2
    have HD := hide (drop_any _ P N s sb lb lcap mv iv T w2 HK.out ((Slf.of HT.out (okV_nms HK.out).len).step hB2))
    clear hB2
    go_wp2_with fail
    refine HD.out.mono ?_
    rintro e w3 ⟨ev, P', N', k, mv', iv', rfl, hev, hR, hS3⟩
    have HR := hide hR
    have HS3 := hide hS3
    obtain ⟨ma, mc, rfl⟩ := ownsRow_form hS3.nrow
    have HPg := hide (pages_any sb w3 _ _ _ _ _ _ hS3.c0 hS3.c1)
    have HBx : Hid (Blk w3 (w.heap.size + 1) #[.slice none 0 0, .slice none 0 0] 32 ∧ w.heap.size + 2 ≤ w3.heap.size) := ⟨HW.out.2.1.below hS3.below HW.out.2.1.lt, by have := hS3.below.size; have := HW.out.2.2; omega⟩
    have HCd : Hid (∀ W, Below w.heap.size w W → Calls Tryd.prog 22 #[ev] W fun e w' => e = .returned (.int .i64 k) ∧ Below W.heap.size W w') := fun W hb => by
      rcases hev with ⟨rfl, rfl⟩ | ⟨rfl, rfl⟩
      · exact codeOf_nil W
      · exact codeOf_ref 3 W (HG.out.below hb HGl.out)
    clear hR hS3
    have hev' : Hid (∃ x, x = ev) := ⟨_, rfl⟩
    clear hev hev'
    go_wp2_with fail
    refine HPg.out.mono ?_
    rintro e w4 ⟨rfl, hB4⟩
    have HS4 := hide (HS3.out.step hB4)
    have HBx4 : Hid (Blk w4 (w.heap.size + 1) #[.slice none 0 0, .slice none 0 0] 32 ∧ w.heap.size + 2 ≤ w4.heap.size) := ⟨HBx.out.1.below hB4 HBx.out.1.lt, Nat.le_trans HBx.out.2 hB4.size⟩
    clear hB4
    go_wp2_with fail
    refine (HCd.out _ (HW.out.1.trans (HS4.out.below.mono HW.out.1.size))).mono ?_
    rintro e w5 ⟨rfl, hB5⟩
    have HS5 := hide (HS4.out.step hB5)
    have HBx5 : Hid (Blk w5 (w.heap.size + 1) #[.slice none 0 0, .slice none 0 0] 32 ∧ w.heap.size + 2 ≤ w5.heap.size) := ⟨HBx4.out.1.below hB5 HBx4.out.1.lt, Nat.le_trans HBx4.out.2 hB5.size⟩
    clear hB5
    have c0 := HBx5.out.1.cell 0 _ rfl
    have c1 := HBx5.out.1.cell 1 _ rfl
    have f0 := HBx5.out.1.frozen 0
    have f1 := HBx5.out.1.frozen 1
    go_wp2_with fail
    refine bodyPost_ret (v := .tuple #[.agg #[.slice (some ⟨lb, 0, none⟩) 96 lcap, .slice ma N'.length mc], .int .i64 k]) (by simp [results, Tryd.results11, go_sem, c0, c1]) rfl ?_
    obtain ⟨b2, ho, hl1, hl2⟩ := HS5.out.own
    have hzW := HW.out.2.2
    have hz5 := HBx5.out.2
    have hb5 : Below w.heap.size w w5 := HW.out.1.trans (HS5.out.below.mono HW.out.1.size)
    have hb : Below w.heap.size w ((w5.setCell ⟨w.heap.size + 1, 0, none⟩ (.slice (some ⟨lb, 0, none⟩) 96 lcap)).setCell ⟨w.heap.size + 1, 1, none⟩ (.slice ma N'.length mc)) := (hb5.setCell (p := ⟨w.heap.size + 1, 0, none⟩) (Nat.le_succ _) _).setCell (p := ⟨w.heap.size + 1, 1, none⟩) (Nat.le_succ _) _
    have hk : ∀ j, w.heap.size + 2 ≤ j → ((w5.setCell ⟨w.heap.size + 1, 0, none⟩ (.slice (some ⟨lb, 0, none⟩) 96 lcap)).setCell ⟨w.heap.size + 1, 1, none⟩ (.slice ma N'.length mc)).heap[j]? = w5.heap[j]? := fun j hj => by
      rw [Below.heap_setCell _ _ _ _ (show j ≠ w.heap.size + 1 by omega), Below.heap_setCell _ _ _ _ (show j ≠ w.heap.size + 1 by omega)]
    have hz : ((w5.setCell ⟨w.heap.size + 1, 0, none⟩ (.slice (some ⟨lb, 0, none⟩) 96 lcap)).setCell ⟨w.heap.size + 1, 1, none⟩ (.slice ma N'.length mc)).heap.size = w5.heap.size := by simp [World.setCell]
    exact ⟨lb, b2, _, _, P', N', k, rfl, HR.out, ⟨ho.pgs.same (fun _ => hk lb (by omega)), ho.nms.same (fun _ => hk b2 (by omega)), ho.ne, by rw [hz]; exact ho.lt1, by rw [hz]; exact ho.lt2⟩, by omega, by omega, hb⟩

end Go.Proofs.YtnahpghbodmdbaaDoor
