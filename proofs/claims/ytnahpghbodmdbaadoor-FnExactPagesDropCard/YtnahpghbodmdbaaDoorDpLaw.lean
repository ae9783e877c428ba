/- The law FnExactPagesDrop: it returns true, whatever pages and name it is called with. -/
import Derived.Test.YtnahpghbodmdbaaDoorDpS
import Derived.Test.YtnahpghbodmdbaaDoorDpO
import Derived.Test.YtnahpghbodmdbaaDoorPgL
import Derived.Deep.QuietTactic
import Derived.BigQuiet
import Derived.Deep.RegionWith
import Derived.Deep.Cut
import Derived.Deep.CutRange
namespace Go.Proofs.YtnahpghbodmdbaaDoor
open Go.RowKit

/-- Pages of one's own, and the box that has them. -/
structure PL (w : World) (b1 b2 B : Nat) (v1 v2 : Value) (l1 : List Pg) (l2 : List Pn) (wi : World) : Prop where
  below : Below w.heap.size w wi
  own : OwnPgs wi b1 b2 v1 v2 l1 l2
  box : Blk wi B #[v1, v2] 32
theorem PL.step {w : World} {b1 b2 B : Nat} {v1 v2 : Value} {l1 : List Pg} {l2 : List Pn} {wi wj : World} (h : PL w b1 b2 B v1 v2 l1 l2 wi) (hb : Below wi.heap.size wi wj) : PL w b1 b2 B v1 v2 l1 l2 wj :=
  ⟨h.below.trans (hb.mono h.below.size), h.own.below hb, h.box.below hb h.box.lt⟩
theorem PL.inr {w : World} {b1 b2 B : Nat} {v1 v2 : Value} {l1 : List Pg} {l2 : List Pn} {wi wj : World} {lo hi : Nat} (h : PL w b1 b2 B v1 v2 l1 l2 wi) (hb : InR lo hi wi wj) (hw : w.heap.size ≤ lo) (h1 : ¬ (lo ≤ b1 ∧ b1 < hi)) (h2 : ¬ (lo ≤ b2 ∧ b2 < hi)) (h3 : ¬ (lo ≤ B ∧ B < hi)) : PL w b1 b2 B v1 v2 l1 l2 wj :=
  ⟨h.below.trans (hb.toBelow hw h.below.size), ⟨h.own.pgs.same (fun _ => hb.block _ h.own.lt1 h1), h.own.nms.same (fun _ => hb.block _ h.own.lt2 h2), h.own.ne, Nat.lt_of_lt_of_le h.own.lt1 hb.size, Nat.lt_of_lt_of_le h.own.lt2 hb.size⟩, (hb.block _ h.box.lt h3).trans h.box⟩
theorem PL.made {w wi : World} {b1 b2 : Nat} {v1 v2 : Value} {l1 : List Pg} {l2 : List Pn} (hb : Below w.heap.size w wi) (ho : OwnPgs wi b1 b2 v1 v2 l1 l2) : PL w b1 b2 wi.heap.size v1 v2 l1 l2 (wi.alloc (.cells #[v1, v2] 32)) :=
  have h : Below wi.heap.size wi (wi.alloc (.cells #[v1, v2] 32)) := (Below.refl _ _).alloc (Nat.le_refl _) _
  ⟨hb.trans (h.mono hb.size), ho.below h, Blk.new _ _ _⟩
theorem OwnPgs.form {w : World} {b1 b2 : Nat} {v1 v2 : Value} {l1 : List Pg} {l2 : List Pn} (h : OwnPgs w b1 b2 v1 v2 l1 l2) : (∃ a n c, v1 = .slice a n c) ∧ (∃ a n c, v2 = .slice a n c) := by
  obtain ⟨⟨a, c, e, _⟩, _⟩ := h.pgs
  obtain ⟨⟨a', c', e', _⟩, _⟩ := h.nms
  exact ⟨⟨a, _, c, e⟩, ⟨a', _, c', e'⟩⟩
theorem DropR.len {P : List Pg} {N : List Pn} {s : ByteArray} {P' : List Pg} {N' : List Pn} {k : Int} (h : DropR P N s P' N' k) : P'.length ≤ P.length ∧ N'.length ≤ N.length := by
  cases hk : okV P N with
  | none =>
    obtain ⟨rfl, rfl, rfl⟩ := h.no hk
    exact ⟨Nat.zero_le _, Nat.zero_le _⟩
  | some T =>
    by_cases hi : ∃ (i : Nat) (h : i < N.length), N[i].name = s
    · obtain ⟨i, hl, he⟩ := hi
      obtain ⟨c, e, hc⟩ := (okV_nms hk).chain i hl
      obtain ⟨rfl, rfl, g1⟩ := h.yes T hk i hl he
      rw [g1 c e hc, dropP_length, List.length_eraseIdx]
      refine ⟨Nat.le_refl _, ?_⟩
      split <;> omega
    · have hn : ∀ (i : Nat) (h : i < N.length), N[i].name ≠ s := fun i hl he => hi ⟨i, hl, he⟩
      obtain ⟨rfl, rfl, rfl⟩ := h.out T hk hn
      exact ⟨Nat.le_refl _, Nat.le_refl _⟩

set_option maxHeartbeats 4000000 in
set_option maxRecDepth 100000 in
theorem pagesDropLaw_any (P : List Pg) (N : List Pn) (pv nv : Value) (s : ByteArray) (w : World) (lo hi : Nat) (hp : RcsAt fPg w lo hi pv P) (hn : RcsAt fPn w lo hi nv N) (hhi : hi ≤ w.heap.size)
    (hs : ∀ (i : Nat) (h : i < P.length), P[i].data.size ≤ maxLen) (hsn : ∀ (i : Nat) (h : i < N.length), N[i].name.size ≤ maxLen) (hg : Laid0 w) (hsl : s.size ≤ maxLen) :
    Calls Tryd.prog 4 #[.agg #[pv, nv], .string s] w fun e w' => e = .returned (.bool true) ∧ Below w.heap.size w w' := by
  have HGl := hide hg.lt
  have HSz : Hid (∀ W, Below w.heap.size w W → Calls Tryd.prog 5 #[.agg #[pv, nv], .int .i64 1048576] W fun e w' => e = .returned (.int .i64 (szPs P N 1048576)) ∧ Below W.heap.size W w') := fun W hb => szPages_any P N pv nv W lo hi (hp.keep hb hhi) (hn.keep hb hhi) (Nat.le_trans hhi hb.size) hs hsn
  have HTo : Hid (0 ≤ szPs P N 1048576 → ∀ W, Below w.heap.size w W → Calls Tryd.prog 7 #[.agg #[pv, nv]] W fun e w' => ∃ a c a' c' b1 b2, e = .returned (.agg #[.slice a P.length c, .slice a' N.length c']) ∧ OwnPgs w' b1 b2 (.slice a P.length c) (.slice a' N.length c') P N ∧ W.heap.size ≤ b1 ∧ W.heap.size ≤ b2 ∧ Below W.heap.size W w') := fun hz W hb =>
    toPages_own P N pv nv W lo hi (hp.keep hb hhi) (hn.keep hb hhi) (Nat.le_trans hhi hb.size) (szPs_len hz).1 (szPs_len hz).2
  have HSp : Hid (∀ W b1 b2 v1 v2, OwnPgs W b1 b2 v1 v2 P N → Calls Tryd.prog 10 #[.agg #[v1, v2], .string s] W (fun e w' => DropPost P N s W e w')) := fun W b1 b2 v1 v2 h => specDrop_any P N _ _ s W 0 W.heap.size h.rd.1 h.rd.2 (Nat.le_refl _) hs hsn
  have HIm : Hid (∀ W b1 b2 v1 v2, OwnPgs W b1 b2 v1 v2 P N → Below w.heap.size w W → Calls Tryd.prog 11 #[.agg #[v1, v2], .string s] W (fun e w' => DropPost P N s W e w')) := fun W b1 b2 v1 v2 h hb => implDrop_any P N _ _ s W 0 W.heap.size h.rd.1 h.rd.2 (Nat.le_refl _) hs hsn (hg.below hb HGl.out)
  have HEq : Hid (∀ (L1 : List Pg) (L2 : List Pn) W b1 b2 v1 v2 c1 c2 u1 u2, OwnPgs W b1 b2 v1 v2 L1 L2 → OwnPgs W c1 c2 u1 u2 L1 L2 → Calls Tryd.prog 9 #[.agg #[v1, v2], .agg #[u1, u2]] W fun e w' => e = .returned (.bool true) ∧ Below W.heap.size W w') := fun L1 L2 W b1 b2 v1 v2 c1 c2 u1 u2 h1 h2 => eqPages_any L1 L2 _ _ _ _ W 0 W.heap.size 0 W.heap.size h1.rd.1 h1.rd.2 h2.rd.1 h2.rd.2 (Nat.le_refl _) (Nat.le_refl _)
  have HMk : Hid (∀ (L1 : List Pg) (L2 : List Pn) W b1 b2 v1 v2, OwnPgs W b1 b2 v1 v2 L1 L2 → L1.length ≤ 1048576 → L2.length ≤ 1048576 → ∀ lo hi, lo ≤ b1 → lo ≤ b2 → b1 < hi → b2 < hi → Calls Tryd.prog 12 #[.agg #[v1, v2], .int .i64 1] W fun e w' => e = .returned (.int .i64 ((1 + 3 * L1.length + 3 * L2.length : Nat) : Int)) ∧ OwnPgs w' b1 b2 v1 v2 (markK gPg c3 L1 1) (markK gPn c3 L2 (1 + 3 * L1.length)) ∧ InR lo hi W w') := fun L1 L2 W b1 b2 v1 v2 ho q1 q2 lo hi h1 h2 h3 h4 => markPages_own L1 L2 v1 v2 b1 b2 1 W lo hi ho ⟨h1, h2, h3, h4⟩ (by omega) (by omega)
  have HHd : Hid (∀ (L1 : List Pg) (L2 : List Pn) W b1 b2 v1 v2, OwnPgs W b1 b2 v1 v2 (markK gPg c3 L1 1) (markK gPn c3 L2 (1 + 3 * L1.length)) → L1.length ≤ 1048576 → L2.length ≤ 1048576 → Calls Tryd.prog 13 #[.agg #[v1, v2], .int .i64 1] W fun e w' => e = .returned (.int .i64 ((1 + 3 * L1.length + 3 * L2.length : Nat) : Int)) ∧ Below W.heap.size W w') := fun L1 L2 W b1 b2 v1 v2 ho q1 q2 => heldPages_any L1 L2 v1 v2 1 W 0 W.heap.size ho.rd.1 ho.rd.2 (Nat.le_refl _) (by omega) (by omega)
  have HLen : Hid (0 ≤ szPs P N 1048576 → P.length ≤ 1048576 ∧ N.length ≤ 1048576) := fun h => szPs_len h
  have HA : Hid (∀ o, Below w.heap.size w (w.alloc o)) := fun o => (Below.refl _ _).alloc (Nat.le_refl _) o
  obtain ⟨va, vc, rfl, _⟩ := hp
  obtain ⟨va', vc', rfl, _⟩ := hn
  clear hs hsn hg
  unfold maxLen at hsl
  generalize szPs P N 1048576 = sz at HSz HTo HLen
  by_cases hbig : 1048576 < s.size
  · have hbI : (1048576 : Int) < (s.size : Int) := by omega
    go_enter Tryd.func4, Tryd.ntmps4
    go_wp2_with fail
    go_ret
    exact ⟨rfl, HA.out _⟩
  have hbI : ¬ (1048576 : Int) < (s.size : Int) := by omega
  go_enter Tryd.func4, Tryd.ntmps4
  go_wp2_with fail
  generalize hW : w.alloc (Obj.cells #[.slice va P.length vc, .slice va' N.length vc'] 25) = W
  have HW : Hid (Below w.heap.size w W ∧ Blk W w.heap.size #[.slice va P.length vc, .slice va' N.length vc'] 25) := by
    subst hW
    exact ⟨HA.out _, Blk.new w _ _⟩
  clear hW HA
  refine (HSz.out W HW.out.1).mono ?_
  rintro e w1 ⟨rfl, hB1⟩
  have HN0 : Hid (∀ {A B}, Below w.heap.size w A ∧ Blk A w.heap.size #[.slice va P.length vc, .slice va' N.length vc'] 25 → Below A.heap.size A B → Below w.heap.size w B ∧ Blk B w.heap.size #[.slice va P.length vc, .slice va' N.length vc'] 25) := fun h hb => ⟨h.1.trans (hb.mono h.1.size), h.2.below hb h.2.lt⟩
  have HQ1 := hide (HN0.out HW.out hB1)
  clear hB1 HSz HW
  by_cases hz : sz < 0
  · go_wp2_with fail
    go_ret
    exact ⟨rfl, HQ1.out.1⟩
  have HTo := hide (HTo.out (by omega))
  have HLen := hide (HLen.out (by omega))
  have x0 := HQ1.out.2.cell 0 _ rfl
  have x1 := HQ1.out.2.cell 1 _ rfl
  go_wp2_with fail
  refine (HTo.out w1 HQ1.out.1).mono ?_
  rintro e w2 ⟨a2, c2, a2', c2', b21, b22, rfl, hO2, _, _, hB2⟩
  have HO2 := hide hO2
  have HQ2 := hide (HN0.out HQ1.out hB2)
  clear hO2 hB2 x0 x1 HQ1
  go_wp2_with fail
  refine (HSp.out w2 _ _ _ _ HO2.out).mono ?_
  rintro e w3 ⟨b1, b2, v1, v2, P', N', k, rfl, hR, hO3, _, _, hB3⟩
  obtain ⟨⟨a6, n6, c6, rfl⟩, ⟨e6, m6, d6, rfl⟩⟩ := hO3.form
  have HR := hide hR
  have HQ3 := hide (HN0.out HQ2.out hB3)
  have HP3 := hide (PL.made HQ3.out.1 hO3)
  have HA3 : Hid (Below w3.heap.size w3 (w3.alloc (.cells #[.slice a6 n6 c6, .slice e6 m6 d6] 32))) := (Below.refl _ _).alloc (Nat.le_refl _) _
  have HQ3' := hide (HN0.out HQ3.out HA3.out)
  have hkk : (k != k) = false := by simp
  have HZ3 : Hid (b1 < w3.heap.size ∧ b2 < w3.heap.size) := ⟨hO3.lt1, hO3.lt2⟩
  have HL' : Hid (P'.length ≤ 1048576 ∧ N'.length ≤ 1048576) := by have := hR.len; have := HLen.out; exact ⟨by omega, by omega⟩
  clear hR hO3 hB3 HO2 HQ2
  have x0 := HQ3'.out.2.cell 0 _ rfl
  have x1 := HQ3'.out.2.cell 1 _ rfl
  go_wp2_with fail
  generalize hW3 : w3.alloc (.cells #[.slice a6 n6 c6, .slice e6 m6 d6] 32) = W3 at HP3 HQ3' HA3 ⊢
  have HP3le : Hid (w.heap.size < w3.heap.size) := HQ3.out.2.lt
  have HS3 : Hid (W3.heap.size = w3.heap.size + 1) := by show _ = _; rw [← hW3]; simp
  clear hW3 HQ3 HA3
  refine (HTo.out W3 HQ3'.out.1).mono ?_
  rintro e w4 ⟨a8, c8, a8', c8', d1, d2, rfl, hO4, hd1, hd2, hB4⟩
  have HQ4 := hide (HN0.out HQ3'.out hB4)
  have HP4 := hide (HP3.out.step hB4)
  have HX4 := hide (PL.made HQ4.out.1 hO4)
  have HZ4 : Hid (W3.heap.size ≤ d1 ∧ W3.heap.size ≤ d2 ∧ d1 < w4.heap.size ∧ d2 < w4.heap.size) := ⟨hd1, hd2, hO4.lt1, hO4.lt2⟩
  have HA4 : Hid (Below w4.heap.size w4 (w4.alloc (.cells #[.slice a8 P.length c8, .slice a8' N.length c8'] 32))) := (Below.refl _ _).alloc (Nat.le_refl _) _
  have HQ4' := hide (HN0.out HQ4.out HA4.out)
  have HP4' := hide (HP4.out.step HA4.out)
  clear hO4 hB4 hd1 hd2 x0 x1 HP3 HQ3'
  go_wp2_with fail
  generalize hW4 : w4.alloc (.cells #[.slice a8 P.length c8, .slice a8' N.length c8'] 32) = W4 at HX4 HQ4' HP4' HA4 ⊢
  have HS4 : Hid (W4.heap.size = w4.heap.size + 1) := by show _ = _; rw [← hW4]; simp
  clear hW4 HP4 HQ4 HA4
  have y0 := HX4.out.box.cell 0 _ rfl
  have y1 := HX4.out.box.cell 1 _ rfl
  try go_wp2_with fail
  refine (HIm.out W4 _ _ _ _ HX4.out.own HQ4'.out.1).mono ?_
  rintro e w5 ⟨f1, f2, v1, v2, P2, N2, k2, rfl, hR5, hO5, hf1, hf2, hB5⟩
  obtain ⟨rfl, rfl, rfl⟩ := HR.out.same hR5
  obtain ⟨⟨a9, n9, c9, rfl⟩, ⟨e9, m9, d9, rfl⟩⟩ := hO5.form
  have HQ5 := hide (HN0.out HQ4'.out hB5)
  have HP5 := hide (HP4'.out.step hB5)
  have HX5 := hide (HX4.out.step hB5)
  have HG5 := hide (PL.made HQ5.out.1 hO5)
  have HZ5 : Hid (W4.heap.size ≤ f1 ∧ W4.heap.size ≤ f2 ∧ f1 < w5.heap.size ∧ f2 < w5.heap.size) := ⟨hf1, hf2, hO5.lt1, hO5.lt2⟩
  have HA5 : Hid (Below w5.heap.size w5 (w5.alloc (.cells #[.slice a9 n9 c9, .slice e9 m9 d9] 32))) := (Below.refl _ _).alloc (Nat.le_refl _) _
  have HQ5' := hide (HN0.out HQ5.out HA5.out)
  have HP5' := hide (HP5.out.step HA5.out)
  have HX5' := hide (HX5.out.step HA5.out)
  clear hR5 hO5 hf1 hf2 hB5 y0 y1 HQ4' HP4' HX4
  have x0 := HP5'.out.box.cell 0 _ rfl
  have x1 := HP5'.out.box.cell 1 _ rfl
  have xl := HP5'.out.box.lt
  go_wp2_with fail
  generalize hW5 : w5.alloc (.cells #[.slice a9 n9 c9, .slice e9 m9 d9] 32) = W5 at HG5 HQ5' HP5' HX5' HA5 ⊢
  have HS5 : Hid (W5.heap.size = w5.heap.size + 1) := by show _ = _; rw [← hW5]; simp
  clear hW5 HP5 HQ5 HX5 HA5
  obtain ⟨mm, hmm, hm0⟩ : ∃ mm : Int, ((1 + 3 * P2.length + 3 * N2.length : Nat) : Int) = mm ∧ ¬ mm < 0 := ⟨_, rfl, by omega⟩
  have HMg : Hid (∀ W b1 b2 v1 v2, OwnPgs W b1 b2 v1 v2 P2 N2 → ∀ lo hi, lo ≤ b1 → lo ≤ b2 → b1 < hi → b2 < hi → Calls Tryd.prog 12 #[.agg #[v1, v2], .int .i64 1] W fun e w' => e = .returned (.int .i64 mm) ∧ OwnPgs w' b1 b2 v1 v2 (markK gPg c3 P2 1) (markK gPn c3 N2 (1 + 3 * P2.length)) ∧ InR lo hi W w') := fun W b1 b2 v1 v2 ho lo hi h1 h2 h3 h4 => by
    have := HMk.out P2 N2 W b1 b2 v1 v2 ho HL'.out.1 HL'.out.2 lo hi h1 h2 h3 h4
    rw [hmm] at this
    exact this
  have HHg : Hid (∀ W b1 b2 v1 v2, OwnPgs W b1 b2 v1 v2 (markK gPg c3 P2 1) (markK gPn c3 N2 (1 + 3 * P2.length)) → Calls Tryd.prog 13 #[.agg #[v1, v2], .int .i64 1] W fun e w' => e = .returned (.int .i64 mm) ∧ Below W.heap.size W w') := fun W b1 b2 v1 v2 ho => by
    have := HHd.out P2 N2 W b1 b2 v1 v2 ho HL'.out.1 HL'.out.2
    rw [hmm] at this
    exact this
  have hmq : (mm != mm) = false := by simp
  clear hmm HHd
  clear x0 x1 xl
  refine (HEq.out _ _ W5 _ _ _ _ _ _ _ _ HG5.out.own HP5'.out.own).mono ?_
  rintro e w6 ⟨rfl, hB6⟩
  have HQ6 := hide (HN0.out HQ5'.out hB6)
  have HP6 := hide (HP5'.out.step hB6)
  have HX6 := hide (HX5'.out.step hB6)
  have HG6 := hide (HG5.out.step hB6)
  clear hB6 HQ5' HP5' HX5' HG5
  have x0 := HQ6.out.2.cell 0 _ rfl
  have x1 := HQ6.out.2.cell 1 _ rfl
  have y0 := HX6.out.box.cell 0 _ rfl
  have y1 := HX6.out.box.cell 1 _ rfl
  go_wp2_with fail
  go_cut [52] from 48 to 52 (fun x wx => x = .bool false ∧ Hid (Below w6.heap.size w6 wx))
  case first =>
    have HD6 : Hid (Below w6.heap.size w6 w6 ∧ Below w6.heap.size w6 w6.drew) := ⟨Below.refl _ _, (Below.refl _ _).drew⟩
    go_region_with (first
      | (go_at_call 7
         refine (HTo.out _ (by first | exact HQ6.out.1 | exact HQ6.out.1.drew)).mono ?_
         rintro e w7 ⟨a7, c7, a7', c7', b71, b72, rfl, hO7, _, _, hB7⟩
         have HB7 : Hid (Below w6.heap.size w6 w7) := (by first | exact hB7 | exact undrewB hB7)
         have HO7 := hide hO7
         have HX7 := hide (HX6.out.step HB7.out)
         have z0 := HX7.out.box.cell 0 _ rfl
         have z1 := HX7.out.box.cell 1 _ rfl
         clear hO7 hB7)
      | (go_at_call 9
         refine (HEq.out _ _ _ _ _ _ _ _ _ _ _ HX7.out.own HO7.out).mono ?_
         rintro e w8 ⟨rfl, hB8⟩
         have HB8 : Hid (Below w6.heap.size w6 w8) := HB7.out.trans (hB8.mono HB7.out.size)
         clear hB8))
    all_goals
      go_wp2_with fail
      go_meet
      exact ⟨rfl, HB8.out⟩
  case rest =>
    obtain ⟨rfl, H7⟩ := hcut
    rename World => w7
    have HQ7 := hide (HN0.out HQ6.out H7.out)
    have HP7 := hide (HP6.out.step H7.out)
    have HX7 := hide (HX6.out.step H7.out)
    have HG7 := hide (HG6.out.step H7.out)
    clear H7 HQ6 HP6 HX6 HG6 x0 x1 y0 y1
    have y0 := HX7.out.box.cell 0 _ rfl
    have y1 := HX7.out.box.cell 1 _ rfl
    go_wp2_with fail
    refine (HMk.out P N w7 d1 d2 _ _ HX7.out.own HLen.out.1 HLen.out.2 W3.heap.size w4.heap.size HZ4.out.1 HZ4.out.2.1 HZ4.out.2.2.1 HZ4.out.2.2.2).mono ?_
    rintro e w8 ⟨rfl, _, hI8⟩
    have hz3 := HS3.out
    have hz4 := HS4.out
    have hz5 := HS5.out
    have hq3 := HZ3.out
    have hq4 := HZ4.out
    have hq5 := HZ5.out
    have hw1 := HQ7.out.1.size
    have HPl7 := HP7.out.below.size
    have hlw : w.heap.size ≤ W3.heap.size := by have := HP3le.out; omega
    have HQ8 : Hid (Below w.heap.size w w8 ∧ Blk w8 w.heap.size #[.slice va P.length vc, .slice va' N.length vc'] 25) := ⟨HQ7.out.1.trans (hI8.toBelow hlw hw1), (hI8.block _ HQ7.out.2.lt (by have := HP3le.out; omega)).trans HQ7.out.2⟩
    have HP8 := hide (HP7.out.inr hI8 hlw (by omega) (by omega) (by omega))
    have HG8 := hide (HG7.out.inr hI8 hlw (by omega) (by omega) (by omega))
    clear hI8 HQ7 HP7 HX7 HG7 y0 y1
    have hk8 : ¬ (((1 + 3 * P.length + 3 * N.length : Nat) : Int) < 0) := by omega
    generalize ((1 + 3 * P.length + 3 * N.length : Nat) : Int) = kx at hk8 ⊢
    have g0 := HG8.out.box.cell 0 _ rfl
    have g1 := HG8.out.box.cell 1 _ rfl
    have p0 := HP8.out.box.cell 0 _ rfl
    have p1 := HP8.out.box.cell 1 _ rfl
    clear hz3 hz4 hz5 hq3 hq4 hq5 hw1 HPl7 hlw
    go_wp2_with fail
    refine (HEq.out _ _ w8 _ _ _ _ _ _ _ _ HG8.out.own HP8.out.own).mono ?_
    rintro e w9 ⟨rfl, hB9⟩
    have HQ9 := hide (HN0.out HQ8.out hB9)
    have HP9 := hide (HP8.out.step hB9)
    have HG9 := hide (HG8.out.step hB9)
    clear hB9 HQ8 HP8 HG8 g0 g1 p0 p1
    have g0 := HG9.out.box.cell 0 _ rfl
    have g1 := HG9.out.box.cell 1 _ rfl
    go_wp2_with fail
    refine (HMg.out w9 f1 f2 _ _ HG9.out.own W4.heap.size w5.heap.size HZ5.out.1 HZ5.out.2.1 HZ5.out.2.2.1 HZ5.out.2.2.2).mono ?_
    rintro e w10 ⟨rfl, hO10, hI10⟩
    have hz3 := HS3.out
    have hz4 := HS4.out
    have hz5 := HS5.out
    have hq3 := HZ3.out
    have hq4 := HZ4.out
    have hw1 := HQ9.out.1.size
    have hlw : w.heap.size ≤ W4.heap.size := by have := HP3le.out; omega
    have HQ10 : Hid (Below w.heap.size w w10 ∧ Blk w10 w.heap.size #[.slice va P.length vc, .slice va' N.length vc'] 25) := ⟨HQ9.out.1.trans (hI10.toBelow hlw hw1), (hI10.block _ HQ9.out.2.lt (by have := HP3le.out; omega)).trans HQ9.out.2⟩
    have HP10 := hide (HP9.out.inr hI10 hlw (by omega) (by omega) (by omega))
    have HG10 : Hid (PL w f1 f2 w5.heap.size (.slice a9 n9 c9) (.slice e9 m9 d9) (markK gPg c3 P2 1) (markK gPn c3 N2 (1 + 3 * P2.length)) w10) := ⟨HQ10.out.1, hO10, (hI10.block _ HG9.out.box.lt (by omega)).trans HG9.out.box⟩
    clear hO10 hI10 HQ9 HP9 HG9 g0 g1 hz3 hz4 hz5 hq3 hq4 hw1 hlw
    have g0 := HG10.out.box.cell 0 _ rfl
    have g1 := HG10.out.box.cell 1 _ rfl
    go_wp2_with fail
    refine (HHg.out w10 _ _ _ _ HG10.out.own).mono ?_
    rintro e w11 ⟨rfl, hB11⟩
    have HQ11 := hide (HN0.out HQ10.out hB11)
    have HP11 := hide (HP10.out.step hB11)
    have HG11 := hide (HG10.out.step hB11)
    clear hB11 HQ10 HP10 HG10 g0 g1
    have x0 := HQ11.out.2.cell 0 _ rfl
    have x1 := HQ11.out.2.cell 1 _ rfl
    go_wp2_with fail
    refine (HTo.out w11 HQ11.out.1).mono ?_
    rintro e w12 ⟨a12, c12, a12', c12', b121, b122, rfl, hO12, _, _, hB12⟩
    have HO12 := hide hO12
    have HQ12 := hide (HN0.out HQ11.out hB12)
    have HP12 := hide (HP11.out.step hB12)
    have HG12 := hide (HG11.out.step hB12)
    clear hO12 hB12 HQ11 HP11 HG11 x0 x1
    go_wp2_with fail
    refine (HIm.out w12 _ _ _ _ HO12.out HQ12.out.1).mono ?_
    rintro e w13 ⟨j1, j2, v1, v2, P3, N3, k3, rfl, hR13, hO13, _, _, hB13⟩
    obtain ⟨rfl, rfl, rfl⟩ := HR.out.same hR13
    obtain ⟨⟨a13, n13, c13, rfl⟩, ⟨e13, m13, d13, rfl⟩⟩ := hO13.form
    have HQ13 := hide (HN0.out HQ12.out hB13)
    have HP13 := hide (HP12.out.step hB13)
    have HG13 := hide (HG12.out.step hB13)
    have HH13 := hide (PL.made HQ13.out.1 hO13)
    have HA13 : Hid (Below w13.heap.size w13 (w13.alloc (.cells #[.slice a13 n13 c13, .slice e13 m13 d13] 32))) := (Below.refl _ _).alloc (Nat.le_refl _) _
    have HP13' := hide (HP13.out.step HA13.out)
    have HG13' := hide (HG13.out.step HA13.out)
    clear hR13 hO13 hB13 HQ12 HP12 HG12 HO12
    have p0 := HP13'.out.box.cell 0 _ rfl
    have p1 := HP13'.out.box.cell 1 _ rfl
    go_wp2_with fail
    generalize hW13 : w13.alloc (.cells #[.slice a13 n13 c13, .slice e13 m13 d13] 32) = W13 at HH13 HP13' HG13' HA13 ⊢
    clear hW13 HP13 HG13 HA13 p0 p1
    refine (HEq.out _ _ W13 _ _ _ _ _ _ _ _ HH13.out.own HP13'.out.own).mono ?_
    rintro e w14 ⟨rfl, hB14⟩
    have HG14 := hide (HG13'.out.step hB14)
    clear hB14 HP13' HG13' HH13
    have g0 := HG14.out.box.cell 0 _ rfl
    have g1 := HG14.out.box.cell 1 _ rfl
    go_wp2_with fail
    refine (HHg.out w14 _ _ _ _ HG14.out.own).mono ?_
    rintro e w15 ⟨rfl, hB15⟩
    have HB15 : Hid (Below w.heap.size w w15) := (HG14.out.step hB15).below
    clear hB15 g0 g1
    go_wp2_with fail
    go_ret
    exact ⟨rfl, HB15.out⟩

end Go.Proofs.YtnahpghbodmdbaaDoor
