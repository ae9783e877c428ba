/- What marked lists of pages and of kept names hold; the same, with comparison and marks, of both together. Written by wip/pgh.py. -/
import Derived.Test.YtblcmnlbapbebaaDoorPgs
namespace Go.Proofs.YtblcmnlbapbebaaDoor
open Go.RowKit






/-- Pages and names in memory of their own, each list in a block of its own. -/
structure OwnPgs (w : World) (b1 b2 : Nat) (v1 v2 : Value) (l1 : List Pg) (l2 : List Pn) : Prop where
  pgs : OwnRcs fPg w b1 (b1 + 1) b1 v1 l1
  nms : OwnRcs fPn w b2 (b2 + 1) b2 v2 l2
  ne : b1 ≠ b2
  lt1 : b1 < w.heap.size
  lt2 : b2 < w.heap.size
theorem OwnPgs.below {w w' : World} {b1 b2 : Nat} {v1 v2 : Value} {l1 : List Pg} {l2 : List Pn} (h : OwnPgs w b1 b2 v1 v2 l1 l2) (hb : Below w.heap.size w w') : OwnPgs w' b1 b2 v1 v2 l1 l2 :=
  ⟨h.pgs.same (fun _ => hb.block _ h.lt1), h.nms.same (fun _ => hb.block _ h.lt2), h.ne, Nat.lt_of_lt_of_le h.lt1 hb.size, Nat.lt_of_lt_of_le h.lt2 hb.size⟩

set_option maxHeartbeats 1000000 in
theorem eqPages_any (l1 : List Pg) (l2 : List Pn) (v1 v2 u1 u2 : Value) (w : World) (lo hi lo' hi' : Nat) (h1 : RcsAt fPg w lo hi v1 l1) (h2 : RcsAt fPn w lo hi v2 l2) (g1 : RcsAt fPg w lo' hi' u1 l1) (g2 : RcsAt fPn w lo' hi' u2 l2) (hhi : hi ≤ w.heap.size) (hhi' : hi' ≤ w.heap.size) :
    Calls Tryd.prog 8 #[.agg #[v1, v2], .agg #[u1, u2]] w fun e w' => e = .returned (.bool true) ∧ Below w.heap.size w w' := by
  have HC1 : Hid (∀ W, Below w.heap.size w W → Calls Tryd.prog 19 #[v1, u1] W fun e w' => e = .returned (.bool true) ∧ Below W.heap.size W w') := fun W hb => eqPageS_any l1 v1 u1 W lo hi lo' hi' (h1.keep hb hhi) (g1.keep hb hhi') (Nat.le_trans hhi hb.size) (Nat.le_trans hhi' hb.size)
  have HC2 : Hid (∀ W, Below w.heap.size w W → Calls Tryd.prog 20 #[v2, u2] W fun e w' => e = .returned (.bool true) ∧ Below W.heap.size W w') := fun W hb => eqPageNameS_any l2 v2 u2 W lo hi lo' hi' (h2.keep hb hhi) (g2.keep hb hhi') (Nat.le_trans hhi hb.size) (Nat.le_trans hhi' hb.size)
  obtain ⟨a1, n1, c1, rfl⟩ : ∃ a n c, v1 = .slice a n c := by obtain ⟨a, c, e, _⟩ := h1; exact ⟨_, _, _, e⟩
  obtain ⟨a2, n2, c2, rfl⟩ : ∃ a n c, v2 = .slice a n c := by obtain ⟨a, c, e, _⟩ := h2; exact ⟨_, _, _, e⟩
  obtain ⟨a3, n3, c3, rfl⟩ : ∃ a n c, u1 = .slice a n c := by obtain ⟨a, c, e, _⟩ := g1; exact ⟨_, _, _, e⟩
  obtain ⟨a4, n4, c4, rfl⟩ : ∃ a n c, u2 = .slice a n c := by obtain ⟨a, c, e, _⟩ := g2; exact ⟨_, _, _, e⟩
  have HA : Hid (∀ o1 o2, Below w.heap.size w ((w.alloc o1).alloc o2)) := fun o1 o2 => ((Below.refl _ _).alloc (Nat.le_refl _) o1).alloc (by simp) o2
  clear h1 h2 g1 g2
  go_enter Tryd.func8, Tryd.ntmps8
  go_wp2_with fail
  generalize hW : (w.alloc (.cells #[.slice a1 n1 c1, .slice a2 n2 c2] 31)).alloc (.cells #[.slice a3 n3 c3, .slice a4 n4 c4] 31) = W
  have HW : Hid (Below w.heap.size w W ∧ Blk W w.heap.size #[.slice a1 n1 c1, .slice a2 n2 c2] 31 ∧ Blk W (w.heap.size + 1) #[.slice a3 n3 c3, .slice a4 n4 c4] 31) := by subst hW; exact ⟨HA.out _ _, (Blk.new w _ _).alloc _, Blk.atn (by simp)⟩
  clear hW HA
  refine (HC1.out W HW.out.1).mono ?_
  rintro e w1 ⟨rfl, hB1⟩
  have HW1 : Hid (Below w.heap.size w w1) := HW.out.1.trans (hB1.mono HW.out.1.size)
  have x1 := (HW.out.2.1.below hB1 HW.out.2.1.lt).cell 1 _ rfl
  have y1 := (HW.out.2.2.below hB1 HW.out.2.2.lt).cell 1 _ rfl
  clear hB1 HW HC1
  go_wp2_with fail
  refine (HC2.out w1 HW1.out).mono ?_
  rintro e w2 ⟨rfl, hB2⟩
  have HW2 : Hid (Below w.heap.size w w2) := HW1.out.trans (hB2.mono HW1.out.size)
  clear hB2
  go_wp2_with fail
  go_ret
  exact ⟨rfl, HW2.out⟩



end Go.Proofs.YtblcmnlbapbebaaDoor
