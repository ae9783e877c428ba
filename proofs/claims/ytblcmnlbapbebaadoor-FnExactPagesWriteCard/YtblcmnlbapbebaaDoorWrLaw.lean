/- The law FnExactPagesWrite: it returns true, whatever pages it is called with. -/
import Derived.Test.YtblcmnlbapbebaaDoorPgL
import Derived.Test.YtblcmnlbapbebaaDoorWrS
import Derived.Test.YtblcmnlbapbebaaDoorWrG
import Derived.Test.YtblcmnlbapbebaaDoorPgh
import Derived.Deep.QuietTactic
import Derived.BigQuiet
import Derived.Deep.RegionWith
namespace Go.Proofs.YtblcmnlbapbebaaDoor
open Go.RowKit

set_option maxHeartbeats 4000000 in
set_option maxRecDepth 100000 in
theorem pagesWriteLaw_any (P : List Pg) (N : List Pn) (pv nv : Value) (w : World) (lo hi : Nat) (hp : RcsAt fPg w lo hi pv P) (hn : RcsAt fPn w lo hi nv N) (hhi : hi ≤ w.heap.size)
    (hs : ∀ (i : Nat) (h : i < P.length), P[i].data.size ≤ maxLen) (hsn : ∀ (i : Nat) (h : i < N.length), N[i].name.size ≤ maxLen) (hg : Laid0 w) (hT : Tab w.heap.size w) :
    Calls Tryd.prog 3 #[.agg #[pv, nv]] w fun e w' => e = .returned (.bool true) ∧ Below w.heap.size w w' := by
  have HGl := hide hg.lt
  have HSz : Hid (∀ W, Below w.heap.size w W → Calls Tryd.prog 4 #[.agg #[pv, nv], .int .i64 1048576] W fun e w' => e = .returned (.int .i64 (szPs P N 1048576)) ∧ Below W.heap.size W w') := fun W hb => szPages_any P N pv nv W lo hi (hp.keep hb hhi) (hn.keep hb hhi) (Nat.le_trans hhi hb.size) hs hsn
  have HTo : Hid (0 ≤ szPs P N 1048576 → ∀ W, Below w.heap.size w W → Calls Tryd.prog 6 #[.agg #[pv, nv]] W fun e w' => ∃ a c a' c', e = .returned (.agg #[.slice a P.length c, .slice a' N.length c']) ∧ (RcsAt fPg w' W.heap.size w'.heap.size (.slice a P.length c) P ∧ RcsAt fPn w' W.heap.size w'.heap.size (.slice a' N.length c') N) ∧ Below W.heap.size W w') := fun hz W hb =>
    (toPages_any P N pv nv W lo hi (hp.keep hb hhi) (hn.keep hb hhi) (Nat.le_trans hhi hb.size) (szPs_len hz).1 (szPs_len hz).2).mono fun e w' ⟨a, c, a', c', h1, h2, h3, h4⟩ => ⟨a, c, a', c', h1, ⟨h2, h3⟩, h4⟩
  have HSp : Hid (∀ W lo' a c a' c', RcsAt fPg W lo' W.heap.size (.slice a P.length c) P ∧ RcsAt fPn W lo' W.heap.size (.slice a' N.length c') N → Below w.heap.size w W → Calls Tryd.prog 5 #[.agg #[.slice a P.length c, .slice a' N.length c']] W fun e w' => e = .returned (.string (writeV P N)) ∧ Below W.heap.size W w') := fun W lo' a c a' c' h _ => specWrite_any P N _ _ W lo' W.heap.size h.1 h.2 (Nat.le_refl _) hs hsn
  have HIm : Hid (∀ W lo' a c a' c', RcsAt fPg W lo' W.heap.size (.slice a P.length c) P ∧ RcsAt fPn W lo' W.heap.size (.slice a' N.length c') N → Below w.heap.size w W → Calls Tryd.prog 7 #[.agg #[.slice a P.length c, .slice a' N.length c']] W fun e w' => e = .returned (.string (writeV P N)) ∧ Below W.heap.size W w') := fun W lo' a c a' c' h hb => implWrite_any P N _ _ W lo' W.heap.size w.heap.size h.1 h.2 (Nat.le_refl _) hs hsn (hg.below hb HGl.out) (hT.keep hb) hb.size
  have HEq : Hid (∀ W lo1 hi1 lo2 a c a' c' a2 c2 a2' c2', RcsAt fPg W lo1 hi1 (.slice a P.length c) P ∧ RcsAt fPn W lo1 hi1 (.slice a' N.length c') N → hi1 ≤ W.heap.size → RcsAt fPg W lo2 W.heap.size (.slice a2 P.length c2) P ∧ RcsAt fPn W lo2 W.heap.size (.slice a2' N.length c2') N → Calls Tryd.prog 8 #[.agg #[.slice a P.length c, .slice a' N.length c'], .agg #[.slice a2 P.length c2, .slice a2' N.length c2']] W fun e w' => e = .returned (.bool true) ∧ Below W.heap.size W w') :=
    fun W lo1 hi1 lo2 a c a' c' a2 c2 a2' c2' h1 h2 h3 => eqPages_any P N _ _ _ _ W lo1 hi1 lo2 W.heap.size h1.1 h1.2 h3.1 h3.2 h2 (Nat.le_refl _)
  have HA : Hid (∀ o, Below w.heap.size w (w.alloc o)) := fun o => (Below.refl _ _).alloc (Nat.le_refl _) o
  have hl := hp.len
  have hl2 := hn.len
  obtain ⟨va, vc, rfl, _⟩ := hp
  obtain ⟨va', vc', rfl, _⟩ := hn
  clear hs hsn hg hT
  unfold maxLen at hl hl2
  generalize szPs P N 1048576 = sz at HSz HTo
  generalize writeV P N = t at HSp HIm
  go_enter Tryd.func3, Tryd.ntmps3
  go_wp2_with fail
  generalize hW : w.alloc (Obj.cells #[.slice va P.length vc, .slice va' N.length vc'] 25) = W
  have HW : Hid (Below w.heap.size w W ∧ W.heap.size = w.heap.size + 1 ∧ Blk W w.heap.size #[.slice va P.length vc, .slice va' N.length vc'] 25) := by
    subst hW
    exact ⟨HA.out _, by simp, Blk.new w _ _⟩
  clear hW HA
  refine (HSz.out W HW.out.1).mono ?_
  rintro e w1 ⟨rfl, hB1⟩
  have HB1 : Hid (Below w.heap.size w w1) := HW.out.1.trans (hB1.mono HW.out.1.size)
  have HQ1 : Hid (Blk w1 w.heap.size #[.slice va P.length vc, .slice va' N.length vc'] 25) := HW.out.2.2.below hB1 (by have := HW.out.2.1; omega)
  clear hB1 HSz HW
  by_cases hz : sz < 0
  · go_wp2_with fail
    go_ret
    exact ⟨rfl, HB1.out⟩
  · have HTo := hide (HTo.out (by omega))
    have x0 := HQ1.out.cell 0 _ rfl
    have x1 := HQ1.out.cell 1 _ rfl
    go_wp2_with fail
    refine (HTo.out w1 HB1.out).mono ?_
    rintro e w2 ⟨a2, c2, a2', c2', rfl, hR2, hB2⟩
    have HR2 := hide hR2
    have HB2 : Hid (Below w.heap.size w w2) := HB1.out.trans (hB2.mono HB1.out.size)
    have HQ2 : Hid (Blk w2 w.heap.size #[.slice va P.length vc, .slice va' N.length vc'] 25) := HQ1.out.below hB2 HQ1.out.lt
    clear hR2 hB2 x0 x1 HQ1
    go_wp2_with fail
    refine (HSp.out w2 _ a2 _ _ _ HR2.out HB2.out).mono ?_
    rintro e w3 ⟨rfl, hB3⟩
    have HB3 : Hid (Below w.heap.size w w3) := HB2.out.trans (hB3.mono HB2.out.size)
    have HQ3 : Hid (Blk w3 w.heap.size #[.slice va P.length vc, .slice va' N.length vc'] 25) := HQ2.out.below hB3 HQ2.out.lt
    clear hB3 HR2 HQ2
    have x0 := HQ3.out.cell 0 _ rfl
    have x1 := HQ3.out.cell 1 _ rfl
    go_wp2_with fail
    refine (HTo.out w3 HB3.out).mono ?_
    rintro e w4 ⟨a4, c4, a4', c4', rfl, hR4, hB4⟩
    have HR4 := hide hR4
    have HB4 : Hid (Below w.heap.size w w4) := HB3.out.trans (hB4.mono HB3.out.size)
    have HQ4 : Hid (Blk w4 w.heap.size #[.slice va P.length vc, .slice va' N.length vc'] 25) := HQ3.out.below hB4 HQ3.out.lt
    clear hR4 hB4 x0 x1 HQ3
    go_wp2_with fail
    generalize hW5 : w4.alloc (Obj.cells #[.slice a4 P.length c4, .slice a4' N.length c4'] 31) = W5
    have HW5 : Hid (Below w.heap.size w W5 ∧ (RcsAt fPg W5 w3.heap.size W5.heap.size (.slice a4 P.length c4) P ∧ RcsAt fPn W5 w3.heap.size W5.heap.size (.slice a4' N.length c4') N) ∧ Blk W5 w.heap.size #[.slice va P.length vc, .slice va' N.length vc'] 25 ∧ Blk W5 w4.heap.size #[.slice a4 P.length c4, .slice a4' N.length c4'] 31) := by
      subst hW5
      have hb : Below w4.heap.size w4 (w4.alloc (Obj.cells #[.slice a4 P.length c4, .slice a4' N.length c4'] 31)) := (Below.refl _ _).alloc (Nat.le_refl _) _
      exact ⟨HB4.out.trans (hb.mono HB4.out.size), ⟨(HR4.out.1.keep hb (Nat.le_refl _)).wide (Nat.le_refl _) (by simp), (HR4.out.2.keep hb (Nat.le_refl _)).wide (Nat.le_refl _) (by simp)⟩, HQ4.out.alloc _, Blk.new _ _ _⟩
    clear hW5
    refine (HIm.out W5 _ a4 _ _ _ HW5.out.2.1 HW5.out.1).mono ?_
    rintro e w6 ⟨rfl, hB6⟩
    have HB6 : Hid (Below w.heap.size w w6) := HW5.out.1.trans (hB6.mono HW5.out.1.size)
    have HR6 : Hid (RcsAt fPg w6 w3.heap.size W5.heap.size (.slice a4 P.length c4) P ∧ RcsAt fPn w6 w3.heap.size W5.heap.size (.slice a4' N.length c4') N) := ⟨HW5.out.2.1.1.keep hB6 (Nat.le_refl _), HW5.out.2.1.2.keep hB6 (Nat.le_refl _)⟩
    have HZ6 : Hid (W5.heap.size ≤ w6.heap.size) := hB6.size
    have HQ6 : Hid (Blk w6 w.heap.size #[.slice va P.length vc, .slice va' N.length vc'] 25) := HW5.out.2.2.1.below hB6 HW5.out.2.2.1.lt
    have HP6 : Hid (Blk w6 w4.heap.size #[.slice a4 P.length c4, .slice a4' N.length c4'] 31) := HW5.out.2.2.2.below hB6 HW5.out.2.2.2.lt
    clear hB6 HR4
    have x0 := HQ6.out.cell 0 _ rfl
    have x1 := HQ6.out.cell 1 _ rfl
    have y0 := HP6.out.cell 0 _ rfl
    have y1 := HP6.out.cell 1 _ rfl
    have HTo6 : Hid (∀ W, Below w6.heap.size w6 W → Calls Tryd.prog 6 #[.agg #[.slice va P.length vc, .slice va' N.length vc']] W fun e w' => ∃ a c a' c', e = .returned (.agg #[.slice a P.length c, .slice a' N.length c']) ∧ (RcsAt fPg w' W.heap.size w'.heap.size (.slice a P.length c) P ∧ RcsAt fPn w' W.heap.size w'.heap.size (.slice a' N.length c') N) ∧ Below w6.heap.size w6 w') := fun W hb =>
      (HTo.out W (HB6.out.trans (hb.mono HB6.out.size))).mono fun e w' ⟨a, c, a', c', h1, h2, h3⟩ => ⟨a, c, a', c', h1, h2, hb.trans (h3.mono hb.size)⟩
    have HEq6 : Hid (∀ W lo2 a c a' c', Below w6.heap.size w6 W → RcsAt fPg W lo2 W.heap.size (.slice a P.length c) P ∧ RcsAt fPn W lo2 W.heap.size (.slice a' N.length c') N → Calls Tryd.prog 8 #[.agg #[.slice a4 P.length c4, .slice a4' N.length c4'], .agg #[.slice a P.length c, .slice a' N.length c']] W fun e w' => e = .returned (.bool true) ∧ Below w.heap.size w w') := fun W lo2 a c a' c' hb hr =>
      (HEq.out W _ W5.heap.size lo2 _ _ _ _ a c a' c' ⟨HR6.out.1.keep hb HZ6.out, HR6.out.2.keep hb HZ6.out⟩ (Nat.le_trans HZ6.out hb.size) hr).mono fun e w' ⟨h1, h2⟩ => ⟨h1, (HB6.out.trans (hb.mono HB6.out.size)).trans (h2.mono (Nat.le_trans HB6.out.size hb.size))⟩
    have hns : (t.toList == t.toList) = true := by simp
    have hnn : (t.toList != t.toList) = false := by simp
    clear HTo HEq HSp HIm HW5 HQ4
    go_wp2_with fail
    go_region_with (first
      | (go_at_call 6
         refine (HTo6.out _ (by first | exact (Below.refl _ _).drew | exact Below.refl _ _)).mono ?_
         rintro e w7 ⟨a7, c7, a7', c7', rfl, hR7, hB7⟩
         have HR7 := hide hR7
         have HB7 := hide hB7
         have HP7 : Hid (Blk w7 w4.heap.size #[.slice a4 P.length c4, .slice a4' N.length c4'] 31) := HP6.out.below hB7 HP6.out.lt
         have z0 := HP7.out.cell 0 _ rfl
         have z1 := HP7.out.cell 1 _ rfl
         clear hR7 hB7)
      | (go_at_call 8
         refine (HEq6.out _ _ _ _ _ _ HB7.out HR7.out).mono ?_
         rintro e w8 ⟨rfl, hB8⟩
         have HB8 := hide hB8
         clear hB8))
    all_goals
      go_wp2_with fail
      go_ret
      exact ⟨rfl, HB8.out⟩

end Go.Proofs.YtblcmnlbapbebaaDoor
