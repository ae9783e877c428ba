/- The law FnExactPagesNew: it returns true. -/
import Derived.Test.YtpakdijknidgcaaPgN
namespace Go.Proofs.Ytpakdijknidgcaa
open Go.RowKit

/-- Pages of one's own, and the box that has them. -/
structure PL (w : World) (b1 b2 B : Nat) (v1 v2 : Value) (l1 : List Pg) (l2 : List Pn) (wi : World) : Prop where
  below : Below w.heap.size w wi
  own : OwnPgs wi b1 b2 v1 v2 l1 l2
  box : Blk wi B #[v1, v2] 25
theorem PL.step {w : World} {b1 b2 B : Nat} {v1 v2 : Value} {l1 : List Pg} {l2 : List Pn} {wi wj : World} (h : PL w b1 b2 B v1 v2 l1 l2 wi) (hb : Below wi.heap.size wi wj) : PL w b1 b2 B v1 v2 l1 l2 wj :=
  ⟨h.below.trans (hb.mono h.below.size), h.own.below hb, h.box.below hb h.box.lt⟩
theorem PL.inr {w : World} {b1 b2 B : Nat} {v1 v2 : Value} {l1 : List Pg} {l2 : List Pn} {wi wj : World} {lo hi : Nat} (h : PL w b1 b2 B v1 v2 l1 l2 wi) (hb : InR lo hi wi wj) (hw : w.heap.size ≤ lo) (h1 : ¬ (lo ≤ b1 ∧ b1 < hi)) (h2 : ¬ (lo ≤ b2 ∧ b2 < hi)) (h3 : ¬ (lo ≤ B ∧ B < hi)) : PL w b1 b2 B v1 v2 l1 l2 wj :=
  ⟨h.below.trans (hb.toBelow hw h.below.size), ⟨h.own.pgs.same (fun _ => hb.block _ h.own.lt1 h1), h.own.nms.same (fun _ => hb.block _ h.own.lt2 h2), h.own.ne, Nat.lt_of_lt_of_le h.own.lt1 hb.size, Nat.lt_of_lt_of_le h.own.lt2 hb.size⟩, (hb.block _ h.box.lt h3).trans h.box⟩
theorem PL.rd {w : World} {b1 b2 B : Nat} {v1 v2 : Value} {l1 : List Pg} {l2 : List Pn} {wi : World} (h : PL w b1 b2 B v1 v2 l1 l2 wi) : RcsAt fPg wi 0 wi.heap.size v1 l1 ∧ RcsAt fPn wi 0 wi.heap.size v2 l2 :=
  ⟨h.own.pgs.rcs.wide (Nat.zero_le _) (by have := h.own.lt1; omega), h.own.nms.rcs.wide (Nat.zero_le _) (by have := h.own.lt2; omega)⟩
theorem OwnPgs.form {w : World} {b1 b2 : Nat} {v1 v2 : Value} {l1 : List Pg} {l2 : List Pn} (h : OwnPgs w b1 b2 v1 v2 l1 l2) : (∃ a c, v1 = .slice a l1.length c) ∧ (∃ a c, v2 = .slice a l2.length c) := by
  obtain ⟨⟨a, c, e, _⟩, _⟩ := h.pgs
  obtain ⟨⟨a', c', e', _⟩, _⟩ := h.nms
  exact ⟨⟨a, c, e⟩, ⟨a', c', e'⟩⟩

set_option maxHeartbeats 4000000 in
set_option maxRecDepth 100000 in
theorem pagesNewLaw_any (w : World) : Calls Try.prog 3 #[] w fun e w' => e = .returned (.bool true) ∧ Below w.heap.size w w' := by
  have HSp := hide (fun W => specNew_any W)
  have HIm := hide (fun W => implNew_any W)
  obtain ⟨L, hL⟩ : ∃ L, List.replicate 96 emptyPg = L := ⟨_, rfl⟩
  have hLl : L.length = 96 := by rw [← hL, List.length_replicate]
  unfold NewPgs at HSp HIm
  rw [hL] at HSp HIm
  have HEq : Hid (∀ W v1 v2 u1 u2, RcsAt fPg W 0 W.heap.size v1 L → RcsAt fPn W 0 W.heap.size v2 [] → RcsAt fPg W 0 W.heap.size u1 L → RcsAt fPn W 0 W.heap.size u2 [] → Calls Try.prog 7 #[.agg #[v1, v2], .agg #[u1, u2]] W fun e w' => e = .returned (.bool true) ∧ Below W.heap.size W w') :=
    fun W v1 v2 u1 u2 h1 h2 g1 g2 => eqPages_any L [] v1 v2 u1 u2 W 0 W.heap.size 0 W.heap.size h1 h2 g1 g2 (Nat.le_refl _) (Nat.le_refl _)
  have HMk : Hid (∀ W b1 b2 v1 v2, OwnPgs W b1 b2 v1 v2 L [] → ∀ lo hi, lo ≤ b1 → lo ≤ b2 → b1 < hi → b2 < hi → Calls Try.prog 8 #[.agg #[v1, v2], .int .i64 1] W fun e w' => e = .returned (.int .i64 289) ∧ OwnPgs w' b1 b2 v1 v2 (markK gPg c3 L 1) [] ∧ InR lo hi W w') := fun W b1 b2 v1 v2 ho lo hi h1 h2 h3 h4 => by
    have := markPages_own L [] v1 v2 b1 b2 1 W lo hi ho ⟨h1, h2, h3, h4⟩ (by omega) (by rw [hLl]; simp)
    rw [hLl] at this
    exact this
  have HHd : Hid (∀ W v1 v2, RcsAt fPg W 0 W.heap.size v1 (markK gPg c3 L 1) → RcsAt fPn W 0 W.heap.size v2 [] → Calls Try.prog 9 #[.agg #[v1, v2], .int .i64 1] W fun e w' => e = .returned (.int .i64 289) ∧ Below W.heap.size W w') := fun W v1 v2 h1 h2 => by
    have := heldPages_any L [] v1 v2 1 W 0 W.heap.size h1 h2 (Nat.le_refl _) (by omega) (by rw [hLl]; simp)
    rw [hLl] at this
    exact this
  clear hL
  go_enter Try.func3, Try.ntmps3
  go_wp2_with fail
  refine (HSp.out w).mono ?_
  rintro e w1 ⟨b1, b2, v1, v2, rfl, ho1, hb1, hb2, hB1⟩
  have HO1 : Hid (OwnPgs w1 b1 b2 v1 v2 L [] ∧ Below w.heap.size w w1) := ⟨ho1, hB1⟩
  obtain ⟨⟨a1, c1, rfl⟩, ⟨a2, c2, rfl⟩⟩ := ho1.form
  rw [hLl] at HO1 ⊢
  clear ho1 hB1 hb1 hb2
  go_wp2_with fail
  generalize hW1 : w1.alloc (.cells #[.slice a1 96 c1, .slice a2 ([] : List Pn).length c2] 25) = W1
  have HP1 : Hid (PL w b1 b2 w1.heap.size (.slice a1 96 c1) (.slice a2 0 c2) L [] W1 ∧ W1.heap.size = w1.heap.size + 1) := by
    subst hW1
    have hb : Below w1.heap.size w1 (w1.alloc (.cells #[.slice a1 96 c1, .slice a2 ([] : List Pn).length c2] 25)) := (Below.refl _ _).alloc (Nat.le_refl _) _
    exact ⟨⟨HO1.out.2.trans (hb.mono HO1.out.2.size), HO1.out.1.below hb, Blk.new _ _ _⟩, by simp⟩
  clear hW1
  refine (HIm.out W1).mono ?_
  rintro e w2 ⟨d1, d2, u1, u2, rfl, ho2, hd1, hd2, hB2⟩
  have HP2 : Hid (PL w b1 b2 w1.heap.size (.slice a1 96 c1) (.slice a2 0 c2) L [] w2 ∧ W1.heap.size ≤ d1 ∧ W1.heap.size ≤ d2 ∧ OwnPgs w2 d1 d2 u1 u2 L [] ∧ b1 < W1.heap.size ∧ b2 < W1.heap.size) := ⟨HP1.out.1.step hB2, hd1, hd2, ho2, HP1.out.1.own.lt1, HP1.out.1.own.lt2⟩
  obtain ⟨⟨a3, c3', rfl⟩, ⟨a4, c4, rfl⟩⟩ := ho2.form
  rw [hLl] at HP2 ⊢
  clear ho2 hB2 hd1 hd2
  have x0 := HP2.out.1.box.cell 0 _ rfl
  have x1 := HP2.out.1.box.cell 1 _ rfl
  have xl := HP2.out.1.box.lt
  go_wp2_with fail
  generalize hW2 : w2.alloc (.cells #[.slice a3 96 c3', .slice a4 ([] : List Pn).length c4] 25) = W2
  have HP3 : Hid (PL w b1 b2 w1.heap.size (.slice a1 96 c1) (.slice a2 0 c2) L [] W2 ∧ PL w d1 d2 w2.heap.size (.slice a3 96 c3') (.slice a4 0 c4) L [] W2) := by
    subst hW2
    have hb : Below w2.heap.size w2 (w2.alloc (.cells #[.slice a3 96 c3', .slice a4 ([] : List Pn).length c4] 25)) := (Below.refl _ _).alloc (Nat.le_refl _) _
    exact ⟨HP2.out.1.step hb, HP2.out.1.below.trans (hb.mono HP2.out.1.below.size), HP2.out.2.2.2.1.below hb, Blk.new _ _ _⟩
  clear hW2 x0 x1
  refine (HEq.out W2 _ _ _ _ HP3.out.2.rd.1 HP3.out.2.rd.2 HP3.out.1.rd.1 HP3.out.1.rd.2).mono ?_
  rintro e w3 ⟨rfl, hB3⟩
  have HP4 : Hid (PL w b1 b2 w1.heap.size (.slice a1 96 c1) (.slice a2 0 c2) L [] w3 ∧ PL w d1 d2 w2.heap.size (.slice a3 96 c3') (.slice a4 0 c4) L [] w3) := ⟨HP3.out.1.step hB3, HP3.out.2.step hB3⟩
  have y0 := HP4.out.2.box.cell 0 _ rfl
  have y1 := HP4.out.2.box.cell 1 _ rfl
  clear hB3 HP3
  go_wp2_with fail
  refine (HMk.out w3 d1 d2 _ _ HP4.out.2.own W1.heap.size w2.heap.size HP2.out.2.1 HP2.out.2.2.1 HP2.out.2.2.2.1.lt1 HP2.out.2.2.2.1.lt2).mono ?_
  rintro e w4 ⟨rfl, ho4, hR4⟩
  have HP5 : Hid (PL w b1 b2 w1.heap.size (.slice a1 96 c1) (.slice a2 0 c2) L [] w4 ∧ PL w d1 d2 w2.heap.size (.slice a3 96 c3') (.slice a4 0 c4) (markK gPg c3 L 1) [] w4) := by
    have h1 := HP1.out.2
    have h2 := HP2.out.2.2.2.2.1
    have h3 := HP2.out.2.2.2.2.2
    have h4 := HP1.out.1.below.size
    exact ⟨HP4.out.1.inr hR4 h4 (by omega) (by omega) (by omega), HP4.out.2.below.trans (hR4.toBelow h4 HP4.out.2.below.size), ho4, (hR4.block _ HP4.out.2.box.lt (by omega)).trans HP4.out.2.box⟩
  clear y0 y1
  have y0 := HP5.out.2.box.cell 0 _ rfl
  have y1 := HP5.out.2.box.cell 1 _ rfl
  clear ho4 hR4 HP4
  go_wp2_with fail
  refine (HHd.out w4 _ _ HP5.out.2.rd.1 HP5.out.2.rd.2).mono ?_
  rintro e w5 ⟨rfl, hB5⟩
  have HP6 : Hid (PL w b1 b2 w1.heap.size (.slice a1 96 c1) (.slice a2 0 c2) L [] w5 ∧ PL w d1 d2 w2.heap.size (.slice a3 96 c3') (.slice a4 0 c4) (markK gPg c3 L 1) [] w5) := ⟨HP5.out.1.step hB5, HP5.out.2.step hB5⟩
  clear hB5 HP5 y0 y1
  go_wp2_with fail
  refine (HIm.out w5).mono ?_
  rintro e w6 ⟨f1, f2, t1, t2, rfl, ho6, hf1, hf2, hB6⟩
  have HP7 : Hid (PL w b1 b2 w1.heap.size (.slice a1 96 c1) (.slice a2 0 c2) L [] w6 ∧ PL w d1 d2 w2.heap.size (.slice a3 96 c3') (.slice a4 0 c4) (markK gPg c3 L 1) [] w6 ∧ OwnPgs w6 f1 f2 t1 t2 L []) := ⟨HP6.out.1.step hB6, HP6.out.2.step hB6, ho6⟩
  obtain ⟨⟨a5, c5, rfl⟩, ⟨a6, c6, rfl⟩⟩ := ho6.form
  rw [hLl] at HP7 ⊢
  have x0 := HP7.out.1.box.cell 0 _ rfl
  have x1 := HP7.out.1.box.cell 1 _ rfl
  have xl := HP7.out.1.box.lt
  clear hB6 HP6 ho6 hf1 hf2
  go_wp2_with fail
  generalize hW6 : w6.alloc (.cells #[.slice a5 96 c5, .slice a6 ([] : List Pn).length c6] 25) = W6
  have HP8 : Hid (PL w b1 b2 w1.heap.size (.slice a1 96 c1) (.slice a2 0 c2) L [] W6 ∧ PL w d1 d2 w2.heap.size (.slice a3 96 c3') (.slice a4 0 c4) (markK gPg c3 L 1) [] W6 ∧ PL w f1 f2 w6.heap.size (.slice a5 96 c5) (.slice a6 0 c6) L [] W6) := by
    subst hW6
    have hb : Below w6.heap.size w6 (w6.alloc (.cells #[.slice a5 96 c5, .slice a6 ([] : List Pn).length c6] 25)) := (Below.refl _ _).alloc (Nat.le_refl _) _
    exact ⟨HP7.out.1.step hb, HP7.out.2.1.step hb, HP7.out.1.below.trans (hb.mono HP7.out.1.below.size), HP7.out.2.2.below hb, Blk.new _ _ _⟩
  clear hW6 x0 x1 HP7
  refine (HEq.out W6 _ _ _ _ HP8.out.2.2.rd.1 HP8.out.2.2.rd.2 HP8.out.1.rd.1 HP8.out.1.rd.2).mono ?_
  rintro e w7 ⟨rfl, hB7⟩
  have HP9 : Hid (PL w d1 d2 w2.heap.size (.slice a3 96 c3') (.slice a4 0 c4) (markK gPg c3 L 1) [] w7) := HP8.out.2.1.step hB7
  have y0 := HP9.out.box.cell 0 _ rfl
  have y1 := HP9.out.box.cell 1 _ rfl
  clear hB7 HP8
  go_wp2_with fail
  refine (HHd.out w7 _ _ HP9.out.rd.1 HP9.out.rd.2).mono ?_
  rintro e w8 ⟨rfl, hB8⟩
  have HB8 : Hid (Below w.heap.size w w8) := (HP9.out.step hB8).below
  clear hB8 y0 y1
  go_wp2_with fail
  go_ret
  exact ⟨rfl, HB8.out⟩

end Go.Proofs.Ytpakdijknidgcaa
