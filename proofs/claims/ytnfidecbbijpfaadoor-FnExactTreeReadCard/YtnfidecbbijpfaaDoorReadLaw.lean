/- The law FnExactTreeRead: it returns true, whatever it is called with. -/
import Derived.Test.YtnfidecbbijpfaaDoorProg
import Derived.Test.YtnfidecbbijpfaaDoorReadSp
import Derived.Test.YtnfidecbbijpfaaDoorBox
import Derived.Test.YtnfidecbbijpfaaDoorEq
namespace Go.Proofs.YtnfidecbbijpfaaDoor
open Go.RowKit

/-- What the law keeps while it goes on: its own argument, the tree and the path of the call. -/
structure KR (w : World) (A : Array Value) (P8 P9 : World → Prop) (W : World) : Prop where
  below : Below w.heap.size w W
  box_ : Blk W w.heap.size A 25
  p8 : P8 W
  p9 : P9 W
def StrsIn (l : List ByteArray) (lo hi : Nat) (v : Value) (W : World) : Prop := StrsAt W lo hi v l ∧ hi ≤ W.heap.size
theorem StrsIn.below {l : List ByteArray} {lo hi : Nat} {v : Value} {W W' : World} (h : StrsIn l lo hi v W) (hb : Below W.heap.size W W') : StrsIn l lo hi v W' := ⟨h.1.keep hb h.2, Nat.le_trans h.2 hb.size⟩
theorem KR.next {w : World} {A : Array Value} {m : Nat} {u : T m} {y0 y1 y2 : Value} {B lo hi : Nat} {nv kv : Value} {l : List ByteArray} {l9 h9 : Nat} {v9 : Value} {W W' : World} (h : KR w A (RepBox m u y0 y1 y2 B lo hi nv kv) (StrsIn l l9 h9 v9) W) (hb : Below W.heap.size W W') : KR w A (RepBox m u y0 y1 y2 B lo hi nv kv) (StrsIn l l9 h9 v9) W' :=
  ⟨h.below.trans (hb.mono h.below.size), h.box_.below hb h.box_.lt, h.p8.below hb, h.p9.below hb⟩

set_option maxHeartbeats 8000000 in
set_option maxRecDepth 100000 in
theorem treeReadLaw_any (n : Nat) (t : T n) (nv kv pv : Value) (path : List ByteArray) (a k : Int) (w : World) (lo hi lo' hi' : Nat) (hrep : Rep w lo hi n t nv kv) (hpath : StrsAt w lo' hi' pv path) (hhi : hi ≤ w.heap.size) (hhi' : hi' ≤ w.heap.size)
    (hwa : (Lit.int .i64 a).wf = true) (hwk : (Lit.int .i64 k).wf = true) (hg : Laid0 w) :
    Calls Tryd.prog 3 #[aggT n t nv kv, pv, .int .i64 a, .int .i64 k] w fun e w' => e = .returned (.bool true) ∧ Below w.heap.size w w' := by
  have HA : Hid (∀ o, Below w.heap.size w (w.alloc o)) := fun o => (Below.refl _ _).alloc (Nat.le_refl _) o
  have HSz : Hid (∀ W, Below w.heap.size w W → Calls Tryd.prog 5 #[.agg #[.bool (headT n t).1, .int .i64 (headT n t).2.1, .string (headT n t).2.2, nv, kv], .int .i64 1048576] W fun e w' => e = .returned (.int .i64 (szT n t 1048576)) ∧ Below W.heap.size W w') := fun W hb =>
    szTree_any n t nv kv 1048576 W lo hi (Rep.keep hb hhi _ _ _ _ hrep) (Nat.le_trans hhi hb.size) (by omega) (by omega)
  have HSzS : Hid (0 ≤ szT n t 1048576 → ∀ W, Below w.heap.size w W → Calls Tryd.prog 6 #[pv, .int .i64 (szT n t 1048576)] W fun e w' => e = .returned (.int .i64 (szStrs path (szT n t 1048576))) ∧ w' = W) := fun h0 W hb =>
    szStringS_any path pv _ W lo' hi' (hpath.keep hb hhi') h0 (by have := szT_le n t 1048576 (by omega); omega)
  have HLen : Hid (0 ≤ szT n t 1048576 → 0 ≤ szStrs path (szT n t 1048576) → path.length ≤ 1048576) := fun h0 h1 => by
    have h2 := szStrs_len path _ h1
    have h3 := szT_le n t 1048576 (by omega)
    omega
  have HTo : Hid (0 ≤ szT n t 1048576 → ∀ W, Below w.heap.size w W → Calls Tryd.prog 8 #[.agg #[.bool (headT n t).1, .int .i64 (headT n t).2.1, .string (headT n t).2.2, nv, kv]] W fun e w' => ∃ a m c a' m' c', e = .returned (.agg #[.bool (headT n t).1, .int .i64 (headT n t).2.1, .string (headT n t).2.2, .slice a m c, .slice a' m' c']) ∧ Rep w' W.heap.size w'.heap.size n t (.slice a m c) (.slice a' m' c') ∧ Below W.heap.size W w') := fun hz W hb =>
    (toTree_any n t nv kv W lo hi (Rep.keep hb hhi _ _ _ _ hrep) (Nat.le_trans hhi hb.size) (szT_sm n t _ (by omega) (by omega) hz)).mono fun e w' ⟨nv', kv', h1, h2, h3⟩ => by
      obtain ⟨a, m, c, a', m', c', rfl, rfl⟩ := (Own.rep _ _ _ _ _ _ h2).slices
      exact ⟨a, m, c, a', m', c', h1, Own.rep _ _ _ _ _ _ h2, h3⟩
  have HToS : Hid (path.length ≤ 1048576 → ∀ W, Below w.heap.size w W → Calls Tryd.prog 9 #[pv] W fun e w' => ∃ a, e = .returned (.slice a path.length path.length) ∧ StrsAt w' W.heap.size w'.heap.size (.slice a path.length path.length) path ∧ Below W.heap.size W w') := fun hz W hb =>
    (toStringS_cap path pv W lo' hi' (hpath.keep hb hhi') (Nat.le_trans hhi' hb.size) hz).mono fun e w' ⟨v', h1, h2, h3, _, a, h5⟩ => by
      subst h5
      exact ⟨a, h1, h2.strs, h3⟩
  have HSp : Hid (0 ≤ szT n t 1048576 → path.length ≤ 1048576 → ∀ W l1 h1 l2 h2 v1 v2 pa, Rep W l1 h1 n t v1 v2 → h1 ≤ W.heap.size → StrsAt W l2 h2 (.slice pa path.length path.length) path → h2 ≤ W.heap.size → Calls Tryd.prog 7 #[.agg #[.bool (headT n t).1, .int .i64 (headT n t).2.1, .string (headT n t).2.2, v1, v2], .slice pa path.length path.length, .int .i64 a, .int .i64 k] W fun e w' => e = .returned (.tuple #[.string (readT n t path a k).1, .int .i64 (readT n t path a k).2]) ∧ Below W.heap.size W w') := fun hz hl W l1 h1 l2 h2 v1 v2 pa g1 g2 g3 g4 =>
    specTreeRead_any n t v1 v2 pa path.length path a k W l1 h1 l2 h2 g1 g3 (Nat.le_refl _) (by unfold maxLen; omega) g2 g4 (by have := szT_count n t 1048576 (by omega) hz; omega) hwa hwk
  have HIm : Hid (∀ W l1 h1 l2 h2 v1 v2 pa, Below w.heap.size w W → Rep W l1 h1 n t v1 v2 → h1 ≤ W.heap.size → StrsAt W l2 h2 (.slice pa path.length path.length) path → h2 ≤ W.heap.size → Calls Tryd.prog 10 #[.agg #[.bool (headT n t).1, .int .i64 (headT n t).2.1, .string (headT n t).2.2, v1, v2], .slice pa path.length path.length, .int .i64 a, .int .i64 k] W fun e w' => e = .returned (.tuple #[.string (readT n t path a k).1, .int .i64 (readT n t path a k).2]) ∧ Below W.heap.size W w') := fun W l1 h1 l2 h2 v1 v2 pa g0 g1 g2 g3 g4 =>
    implTreeRead_any n t v1 v2 _ path a k W l1 h1 l2 h2 g1 g3 g2 g4 (hg.below g0 hg.lt)
  have HEqT : Hid (∀ W l1 h1 l2 h2 v1 v2 v3 v4, Rep W l1 h1 n t v1 v2 → h1 ≤ W.heap.size → Rep W l2 h2 n t v3 v4 → h2 ≤ W.heap.size → Calls Tryd.prog 11 #[.agg #[.bool (headT n t).1, .int .i64 (headT n t).2.1, .string (headT n t).2.2, v1, v2], .agg #[.bool (headT n t).1, .int .i64 (headT n t).2.1, .string (headT n t).2.2, v3, v4]] W fun e w' => e = .returned (.bool true) ∧ Below W.heap.size W w') := fun W l1 h1 l2 h2 v1 v2 v3 v4 g1 g2 g3 g4 =>
    eqTree_any n t v1 v2 v3 v4 W l1 h1 l2 h2 g1 g3 g2 g4
  have HEqS : Hid (∀ W l1 h1 l2 h2 v1 v2, StrsAt W l1 h1 v1 path → h1 ≤ W.heap.size → StrsAt W l2 h2 v2 path → h2 ≤ W.heap.size → Calls Tryd.prog 12 #[v1, v2] W fun e w' => e = .returned (.bool true) ∧ Below W.heap.size W w') := fun W l1 h1 l2 h2 v1 v2 g1 g2 g3 g4 =>
    eqStringS_any path v1 v2 W l1 h1 l2 h2 g1 g3 g2 g4
  obtain ⟨pa, pc, rfl⟩ : ∃ pa pc, pv = .slice pa path.length pc := by obtain ⟨pa, pc, h, _⟩ := hpath; exact ⟨pa, pc, h⟩
  obtain ⟨va, vm, vc, ua, um, uc, rfl, rfl⟩ := hrep.slices
  clear hrep hpath hg
  show Calls Tryd.prog 3 #[.agg #[.bool (headT n t).1, .int .i64 (headT n t).2.1, .string (headT n t).2.2, .slice va vm vc, .slice ua um uc], .slice pa path.length pc, .int .i64 a, .int .i64 k] w _
  generalize readT n t path a k = R at HSp HIm
  obtain ⟨rs, rc⟩ := R
  dsimp only at HSp HIm
  generalize szStrs path (szT n t 1048576) = sz2 at HSzS HLen
  generalize szT n t 1048576 = sz at HSz HSzS HLen HTo HSp
  generalize (headT n t).1 = hd at HSz HTo HSp HIm HEqT ⊢
  generalize (headT n t).2.1 = hm at HSz HTo HSp HIm HEqT ⊢
  generalize (headT n t).2.2 = hda at HSz HTo HSp HIm HEqT ⊢
  go_enter Tryd.func3, Tryd.ntmps3
  go_wp2_with fail
  generalize hW : w.alloc (Obj.cells #[.bool hd, .int .i64 hm, .string hda, .slice va vm vc, .slice ua um uc] 25) = W
  have HW : Hid (Below w.heap.size w W ∧ Blk W w.heap.size #[.bool hd, .int .i64 hm, .string hda, .slice va vm vc, .slice ua um uc] 25) := by
    subst hW
    exact ⟨HA.out _, Blk.new w _ _⟩
  clear hW HA
  refine (HSz.out W HW.out.1).mono ?_
  rintro e w1 ⟨rfl, hB1⟩
  have HBw1 : Hid (Below w.heap.size w w1) := HW.out.1.trans (hB1.mono HW.out.1.size)
  have HQ1 : Hid (Blk w1 w.heap.size #[.bool hd, .int .i64 hm, .string hda, .slice va vm vc, .slice ua um uc] 25) := HW.out.2.below hB1 HW.out.2.lt
  clear hB1
  by_cases hz : sz < 0
  · go_wp2_with fail
    go_ret
    exact ⟨rfl, HBw1.out⟩
  go_wp2_with fail
  refine (HSzS.out (by omega) w1 HBw1.out).mono ?_
  rintro e w1' ⟨rfl, rfl⟩
  by_cases hz2 : sz2 < 0
  · go_wp2_with fail
    go_ret
    exact ⟨rfl, HBw1.out⟩
  have hz' : 0 ≤ sz := by omega
  have HL : Hid (path.length ≤ 1048576) := HLen.out hz' (by omega)
  have x0 := HQ1.out.cell 0 _ rfl
  have x1 := HQ1.out.cell 1 _ rfl
  have x2 := HQ1.out.cell 2 _ rfl
  have x3 := HQ1.out.cell 3 _ rfl
  have x4 := HQ1.out.cell 4 _ rfl
  go_wp2_with fail
  refine (HTo.out hz' w1' HBw1.out).mono ?_
  rintro e w2 ⟨a2, m2, c2, b2, n2, d2, rfl, hO2, hB2⟩
  have HBw2 : Hid (Below w.heap.size w w2) := HBw1.out.trans (hB2.mono HBw1.out.size)
  have HQ2 : Hid (Blk w2 w.heap.size #[.bool hd, .int .i64 hm, .string hda, .slice va vm vc, .slice ua um uc] 25) := HQ1.out.below hB2 HQ1.out.lt
  have HO2 := hide hO2
  clear hB2 hO2 x0 x1 x2 x3 x4
  go_wp2_with fail
  refine (HToS.out HL.out w2 HBw2.out).mono ?_
  rintro e w3 ⟨a3, rfl, hO3, hB3⟩
  have HBw3 : Hid (Below w.heap.size w w3) := HBw2.out.trans (hB3.mono HBw2.out.size)
  have HQ3 : Hid (Blk w3 w.heap.size #[.bool hd, .int .i64 hm, .string hda, .slice va vm vc, .slice ua um uc] 25) := HQ2.out.below hB3 HQ2.out.lt
  have HR3 : Hid (Rep w3 w1'.heap.size w2.heap.size n t (.slice a2 m2 c2) (.slice b2 n2 d2) ∧ w2.heap.size ≤ w3.heap.size) := ⟨Rep.keep hB3 (Nat.le_refl _) _ _ _ _ HO2.out, hB3.size⟩
  have HO3 := hide hO3
  clear hB3 hO3
  go_wp2_with fail
  refine (HSp.out hz' HL.out w3 _ _ _ _ _ _ _ HR3.out.1 HR3.out.2 HO3.out (Nat.le_refl _)).mono ?_
  rintro e w4 ⟨rfl, hB4⟩
  have HBw4 : Hid (Below w.heap.size w w4) := HBw3.out.trans (hB4.mono HBw3.out.size)
  have HQ4 : Hid (Blk w4 w.heap.size #[.bool hd, .int .i64 hm, .string hda, .slice va vm vc, .slice ua um uc] 25) := HQ3.out.below hB4 HQ3.out.lt
  have x0 := HQ4.out.cell 0 _ rfl
  have x1 := HQ4.out.cell 1 _ rfl
  have x2 := HQ4.out.cell 2 _ rfl
  have x3 := HQ4.out.cell 3 _ rfl
  have x4 := HQ4.out.cell 4 _ rfl
  clear hB4 HO2 HR3 HO3
  go_wp2_with fail
  refine (HTo.out hz' w4 HBw4.out).mono ?_
  rintro e w6 ⟨a6, m6, c6, b6, n6, d6, rfl, hO6, hB6⟩
  have HO6 := hide hO6
  have HBw6 : Hid (Below w.heap.size w w6) := HBw4.out.trans (hB6.mono HBw4.out.size)
  have HQ6 : Hid (Blk w6 w.heap.size #[.bool hd, .int .i64 hm, .string hda, .slice va vm vc, .slice ua um uc] 25) := HQ4.out.below hB6 HQ4.out.lt
  clear hO6 hB6 x0 x1 x2 x3 x4
  go_wp2_with fail
  generalize hW7 : w6.alloc (Obj.cells #[.bool hd, .int .i64 hm, .string hda, .slice a6 m6 c6, .slice b6 n6 d6] 32) = W7
  have HW7 : Hid (Below w.heap.size w W7 ∧ Blk W7 w.heap.size #[.bool hd, .int .i64 hm, .string hda, .slice va vm vc, .slice ua um uc] 25 ∧ RepBox n t (.bool hd) (.int .i64 hm) (.string hda) w6.heap.size w4.heap.size w6.heap.size (.slice a6 m6 c6) (.slice b6 n6 d6) W7) := by
    subst hW7
    have hb : ∀ o, Below w6.heap.size w6 (w6.alloc o) := fun o => (Below.refl _ _).alloc (Nat.le_refl _) o
    exact ⟨HBw6.out.alloc HBw6.out.size _, HQ6.out.alloc _, ⟨Blk.new _ _ _, Rep.keep (hb _) (Nat.le_refl _) _ _ _ _ HO6.out, by simp⟩⟩
  clear hW7 HO6
  refine (HToS.out HL.out W7 HW7.out.1).mono ?_
  rintro e w8 ⟨a8, rfl, hO8, hB8⟩
  have H8 : Hid (KR w #[.bool hd, .int .i64 hm, .string hda, .slice va vm vc, .slice ua um uc] (RepBox n t (.bool hd) (.int .i64 hm) (.string hda) w6.heap.size w4.heap.size w6.heap.size (.slice a6 m6 c6) (.slice b6 n6 d6)) (StrsIn path W7.heap.size w8.heap.size (.slice a8 path.length path.length)) w8) :=
    ⟨HW7.out.1.trans (hB8.mono HW7.out.1.size), HW7.out.2.1.below hB8 HW7.out.2.1.lt, HW7.out.2.2.below hB8, ⟨hO8, Nat.le_refl _⟩⟩
  clear hO8 hB8 HW7 HQ1 HQ2 HQ3 HQ4 HQ6 HBw1 HBw2 HBw3 HBw4 HBw6 HW HSz HSzS HSp HLen
  have x0 := H8.out.p8.1.cell 0 _ rfl
  have x1 := H8.out.p8.1.cell 1 _ rfl
  have x2 := H8.out.p8.1.cell 2 _ rfl
  have x3 := H8.out.p8.1.cell 3 _ rfl
  have x4 := H8.out.p8.1.cell 4 _ rfl
  go_wp2_with fail
  refine (HIm.out w8 _ _ _ _ _ _ _ H8.out.below H8.out.p8.2.1 H8.out.p8.2.2 H8.out.p9.1 H8.out.p9.2).mono ?_
  rintro e w11 ⟨rfl, hB11⟩
  have H11 := hide (H8.out.next hB11)
  clear hB11 x0 x1 x2 x3 x4 HIm H8
  have hrb : (rc != rc) = false := by simp
  have x0 := H11.out.p8.1.cell 0 _ rfl
  have x1 := H11.out.p8.1.cell 1 _ rfl
  have x2 := H11.out.p8.1.cell 2 _ rfl
  have x3 := H11.out.p8.1.cell 3 _ rfl
  have x4 := H11.out.p8.1.cell 4 _ rfl
  have y0 := H11.out.box_.cell 0 _ rfl
  have y1 := H11.out.box_.cell 1 _ rfl
  have y2 := H11.out.box_.cell 2 _ rfl
  have y3 := H11.out.box_.cell 3 _ rfl
  have y4 := H11.out.box_.cell 4 _ rfl
  go_wp2_with fail
  go_cut [60] from 56 to 59 (fun x wx => x = .bool false ∧ Hid (Below w11.heap.size w11 wx))
  case first =>
    have HTo11 : Hid (∀ W, Below w11.heap.size w11 W → Calls Tryd.prog 8 #[.agg #[.bool hd, .int .i64 hm, .string hda, .slice va vm vc, .slice ua um uc]] W fun e w' => ∃ a m c a' m' c', e = .returned (.agg #[.bool hd, .int .i64 hm, .string hda, .slice a m c, .slice a' m' c']) ∧ Rep w' W.heap.size w'.heap.size n t (.slice a m c) (.slice a' m' c') ∧ Below w11.heap.size w11 w') := fun W hb =>
      (HTo.out hz' W (H11.out.below.trans (hb.mono H11.out.below.size))).mono fun e w' ⟨a, m, c, a', m', c', h1, h2, h3⟩ => ⟨a, m, c, a', m', c', h1, h2, hb.trans (h3.mono hb.size)⟩
    have HEq11 : Hid (∀ W l2 v3 v4, Below w11.heap.size w11 W → Rep W l2 W.heap.size n t v3 v4 → Calls Tryd.prog 11 #[.agg #[.bool hd, .int .i64 hm, .string hda, .slice a6 m6 c6, .slice b6 n6 d6], .agg #[.bool hd, .int .i64 hm, .string hda, v3, v4]] W fun e w' => e = .returned (.bool true) ∧ Below w11.heap.size w11 w') := fun W l2 v3 v4 hb hr =>
      (HEqT.out W _ _ _ _ _ _ _ _ (H11.out.next hb).p8.2.1 (H11.out.next hb).p8.2.2 hr (Nat.le_refl _)).mono fun e w' ⟨h1, h2⟩ => ⟨h1, hb.trans (h2.mono hb.size)⟩
    have HC11 : Hid (∀ W, Below w11.heap.size w11 W → Blk W w6.heap.size #[.bool hd, .int .i64 hm, .string hda, .slice a6 m6 c6, .slice b6 n6 d6] 32) := fun W hb => (H11.out.next hb).p8.1
    go_region_with (first
      | (go_at_call 8
         refine (HTo11.out _ (by first | exact (Below.refl _ _).drew | exact Below.refl _ _)).mono ?_
         rintro e w7' ⟨a7, m7, c7, b7, n7, d7, rfl, hR7, hB7⟩
         have HR7 := hide hR7
         have HB7 := hide hB7
         have z0 := (HC11.out _ hB7).cell 0 _ rfl
         have z1 := (HC11.out _ hB7).cell 1 _ rfl
         have z2 := (HC11.out _ hB7).cell 2 _ rfl
         have z3 := (HC11.out _ hB7).cell 3 _ rfl
         have z4 := (HC11.out _ hB7).cell 4 _ rfl
         clear hR7 hB7)
      | (go_at_call 11
         refine (HEq11.out _ _ _ _ HB7.out HR7.out).mono ?_
         rintro e w8' ⟨rfl, hB8⟩
         have HB8 := hide hB8
         clear hB8))
    all_goals
      go_wp2_with fail
      go_meet
      exact ⟨rfl, HB8⟩
  case rest =>
    obtain ⟨rfl, HB12⟩ := hcut
    have H12 := hide (H11.out.next HB12.out)
    clear x0 x1 x2 x3 x4 y0 y1 y2 y3 y4
    clear HB12 H11
    go_wp2_with fail
    refine (HToS.out HL.out wc H12.out.below).mono ?_
    rintro e w13 ⟨a13, rfl, hO13, hB13⟩
    have H13 := hide (H12.out.next hB13)
    have HO13 := hide hO13
    clear hO13 hB13
    go_wp2_with fail
    refine (HEqS.out w13 _ _ _ _ _ _ H13.out.p9.1 H13.out.p9.2 HO13.out (Nat.le_refl _)).mono ?_
    rintro e w14 ⟨rfl, hB14⟩
    have H14 := hide (H13.out.next hB14)
    clear hB14 HO13 H12 H13
    go_wp2_with fail
    go_ret
    exact ⟨rfl, H14.out.below⟩

end Go.Proofs.YtnfidecbbijpfaaDoor
