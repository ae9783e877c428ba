/- The law FnExactTreeList: it returns true, whatever it is called with. -/
import Derived.Test.YtnfidecbbijpfaaDoorProg
import Derived.Test.YtnfidecbbijpfaaDoorListSp
import Derived.Test.YtnfidecbbijpfaaDoorBoxes
import Derived.Test.YtnfidecbbijpfaaDoorEq
namespace Go.Proofs.YtnfidecbbijpfaaDoor
open Go.RowKit

theorem ksL {l6 : List ByteArray} {x6 y6 : Nat} {v6 : Value} {m8 : Nat} {u8 : T m8} {y0 y1 y2 : Value} {B8 l8 h8 : Nat} {n8 k8 : Value} {l : List ByteArray} {l9 h9 b9 : Nat} {v9 : Value} {l10 : List ByteArray} {x10 y10 b10 : Nat} {v10 : Value} :
    Clo (StrsIn l6 x6 y6 v6) ∧ Clo (OwnBox m8 u8 y0 y1 y2 B8 l8 h8 n8 k8) ∧ Clo (OwnS l l9 h9 b9 v9) ∧ Clo (OwnS l10 x10 y10 b10 v10) :=
  ⟨fun _ _ => StrsIn.below, fun _ _ => OwnBox.below, fun _ _ => OwnS.below, fun _ _ => OwnS.below⟩
theorem ksM {l6 : List ByteArray} {x6 y6 : Nat} {v6 : Value} {l10 : List ByteArray} {x10 y10 b10 : Nat} {v10 : Value} :
    Clo (StrsIn l6 x6 y6 v6) ∧ Clo Tru ∧ Clo Tru ∧ Clo (OwnS l10 x10 y10 b10 v10) :=
  ⟨fun _ _ => StrsIn.below, fun _ _ _ _ => trivial, fun _ _ _ _ => trivial, fun _ _ => OwnS.below⟩
theorem ksN {l6 : List ByteArray} {x6 y6 : Nat} {v6 : Value} {l10 : List ByteArray} {x10 y10 : Nat} {v10 : Value} :
    Clo (StrsIn l6 x6 y6 v6) ∧ Clo Tru ∧ Clo Tru ∧ Clo (StrsIn l10 x10 y10 v10) :=
  ⟨fun _ _ => StrsIn.below, fun _ _ _ _ => trivial, fun _ _ _ _ => trivial, fun _ _ => StrsIn.below⟩

theorem list_small {n : Nat} {t : T n} {path : List ByteArray} : (listT n t path).1.length ≤ 1048576 := by
  unfold listT
  split
  · simp
  · rename_i hok
    have hok : okT n t = true := by simpa using hok
    split
    · simp
    · rename_i m u h
      split
      · cases m with
        | zero => exact Nat.zero_le _
        | succ m => exact (atT_ind AllGood (fun _ _ h i hi => h.2 i hi) n t path (m + 1) u (allGood_of_ok n t hok) h).1.small
      · simp

set_option maxHeartbeats 8000000 in
set_option maxRecDepth 100000 in
theorem treeListLaw_any (n : Nat) (t : T n) (nv kv pv : Value) (path : List ByteArray) (w : World) (lo hi lo' hi' : Nat) (hrep : Rep w lo hi n t nv kv) (hpath : StrsAt w lo' hi' pv path) (hhi : hi ≤ w.heap.size) (hhi' : hi' ≤ w.heap.size) (hg : Laid0 w) :
    Calls Tryd.prog 4 #[aggT n t nv kv, pv] w fun e w' => e = .returned (.bool true) ∧ Below w.heap.size w w' := by
  have HA : Hid (∀ o, Below w.heap.size w (w.alloc o)) := fun o => (Below.refl _ _).alloc (Nat.le_refl _) o
  have HSz : Hid (∀ W, Below w.heap.size w W → Calls Tryd.prog 5 #[.agg #[.bool (headT n t).1, .int .i64 (headT n t).2.1, .string (headT n t).2.2, nv, kv], .int .i64 1048576] W fun e w' => e = .returned (.int .i64 (szT n t 1048576)) ∧ Below W.heap.size W w') := fun W hb =>
    szTree_any n t nv kv 1048576 W lo hi (Rep.keep hb hhi _ _ _ _ hrep) (Nat.le_trans hhi hb.size) (by omega) (by omega)
  have HSzS : Hid (0 ≤ szT n t 1048576 → ∀ W, Below w.heap.size w W → Calls Tryd.prog 6 #[pv, .int .i64 (szT n t 1048576)] W fun e w' => e = .returned (.int .i64 (szStrs path (szT n t 1048576))) ∧ w' = W) := fun h0 W hb =>
    szStringS_any path pv _ W lo' hi' (hpath.keep hb hhi') h0 (by have := szT_le n t 1048576 (by omega); omega)
  have HLen : Hid (0 ≤ szT n t 1048576 → 0 ≤ szStrs path (szT n t 1048576) → path.length ≤ 1048576) := fun h0 h1 => by
    have h2 := szStrs_len path _ h1
    have h3 := szT_le n t 1048576 (by omega)
    omega
  have HTo : Hid (0 ≤ szT n t 1048576 → ∀ W, Below w.heap.size w W → Calls Tryd.prog 8 #[.agg #[.bool (headT n t).1, .int .i64 (headT n t).2.1, .string (headT n t).2.2, nv, kv]] W fun e w' => ∃ a m c a' m' c', e = .returned (.agg #[.bool (headT n t).1, .int .i64 (headT n t).2.1, .string (headT n t).2.2, .slice a m c, .slice a' m' c']) ∧ Own w' n W.heap.size w'.heap.size t (.slice a m c) (.slice a' m' c') ∧ Below W.heap.size W w') := fun hz W hb =>
    (toTree_any n t nv kv W lo hi (Rep.keep hb hhi _ _ _ _ hrep) (Nat.le_trans hhi hb.size) (szT_sm n t _ (by omega) (by omega) hz)).mono fun e w' ⟨nv', kv', h1, h2, h3⟩ => by
      obtain ⟨a, m, c, a', m', c', rfl, rfl⟩ := (Own.rep _ _ _ _ _ _ h2).slices
      exact ⟨a, m, c, a', m', c', h1, h2, h3⟩
  have HToS : Hid (path.length ≤ 1048576 → ∀ W, Below w.heap.size w W → Calls Tryd.prog 9 #[pv] W fun e w' => ∃ a, e = .returned (.slice a path.length path.length) ∧ OwnStrs w' W.heap.size w'.heap.size W.heap.size (.slice a path.length path.length) path ∧ Below W.heap.size W w') := fun hz W hb =>
    (toStringS_cap path pv W lo' hi' (hpath.keep hb hhi') (Nat.le_trans hhi' hb.size) hz).mono fun e w' ⟨v', h1, h2, h3, _, a, h5⟩ => by
      subst h5
      exact ⟨a, h1, h2, h3⟩
  have HSp : Hid (0 ≤ szT n t 1048576 → path.length ≤ 1048576 → ∀ W l1 h1 l2 h2 v1 v2 pa, Rep W l1 h1 n t v1 v2 → h1 ≤ W.heap.size → StrsAt W l2 h2 (.slice pa path.length path.length) path → h2 ≤ W.heap.size → Calls Tryd.prog 13 #[.agg #[.bool (headT n t).1, .int .i64 (headT n t).2.1, .string (headT n t).2.2, v1, v2], .slice pa path.length path.length] W fun e w' => ∃ a c, e = .returned (.tuple #[.slice a (listT n t path).1.length c, .int .i64 (listT n t path).2]) ∧ StrsAt w' W.heap.size w'.heap.size (.slice a (listT n t path).1.length c) (listT n t path).1 ∧ Below W.heap.size W w') := fun hz hl W l1 h1 l2 h2 v1 v2 pa g1 g2 g3 g4 =>
    specTreeList_any n t v1 v2 pa path.length path W l1 h1 l2 h2 g1 g3 (Nat.le_refl _) (by unfold maxLen; omega) g2 g4 (by have := szT_count n t 1048576 (by omega) hz; omega)
  have HIm : Hid (∀ W l1 h1 l2 h2 v1 v2 pa, Below w.heap.size w W → Rep W l1 h1 n t v1 v2 → h1 ≤ W.heap.size → StrsAt W l2 h2 (.slice pa path.length path.length) path → h2 ≤ W.heap.size → Calls Tryd.prog 14 #[.agg #[.bool (headT n t).1, .int .i64 (headT n t).2.1, .string (headT n t).2.2, v1, v2], .slice pa path.length path.length] W fun e w' => ∃ a c h9 b, e = .returned (.tuple #[.slice a (listT n t path).1.length c, .int .i64 (listT n t path).2]) ∧ OwnS (listT n t path).1 W.heap.size h9 b (.slice a (listT n t path).1.length c) w' ∧ Below W.heap.size W w') := fun W l1 h1 l2 h2 v1 v2 pa g0 g1 g2 g3 g4 =>
    (implTreeList_any n t v1 v2 _ path W l1 h1 l2 h2 g1 g3 g2 g4 (hg.below g0 hg.lt)).mono fun e w' ⟨a, c, h9, e1, ⟨b, e2⟩, e3, e4⟩ => ⟨a, c, h9, b, e1, ⟨e2, e3⟩, e4⟩
  have HEqT : Hid (∀ W l1 h1 l2 h2 v1 v2 v3 v4, Rep W l1 h1 n t v1 v2 → h1 ≤ W.heap.size → Rep W l2 h2 n t v3 v4 → h2 ≤ W.heap.size → Calls Tryd.prog 11 #[.agg #[.bool (headT n t).1, .int .i64 (headT n t).2.1, .string (headT n t).2.2, v1, v2], .agg #[.bool (headT n t).1, .int .i64 (headT n t).2.1, .string (headT n t).2.2, v3, v4]] W fun e w' => e = .returned (.bool true) ∧ Below W.heap.size W w') := fun W l1 h1 l2 h2 v1 v2 v3 v4 g1 g2 g3 g4 =>
    eqTree_any n t v1 v2 v3 v4 W l1 h1 l2 h2 g1 g3 g2 g4
  have HEqS : Hid (∀ (l : List ByteArray) W l1 h1 l2 h2 v1 v2, StrsAt W l1 h1 v1 l → h1 ≤ W.heap.size → StrsAt W l2 h2 v2 l → h2 ≤ W.heap.size → Calls Tryd.prog 12 #[v1, v2] W fun e w' => e = .returned (.bool true) ∧ Below W.heap.size W w') := fun l W l1 h1 l2 h2 v1 v2 g1 g2 g3 g4 =>
    eqStringS_any l v1 v2 W l1 h1 l2 h2 g1 g3 g2 g4
  have HCnt : Hid (0 ≤ szT n t 1048576 → cntT n t ≤ 4194304) := fun hz => by
    have h1 := szT_cnt n t 1048576 (by omega) hz
    omega
  have HMkT : Hid (0 ≤ szT n t 1048576 → ∀ W l h v1 v2, Own W n l h t v1 v2 → h ≤ W.heap.size → Calls Tryd.prog 15 #[.agg #[.bool (headT n t).1, .int .i64 (headT n t).2.1, .string (headT n t).2.2, v1, v2], .int .i64 1] W fun e w' => ∃ k1 : Nat, e = .returned (.int .i64 (k1 : Int)) ∧ 0 < k1 ∧ k1 ≤ 8388608 ∧ InR l h W w') := fun hz W l h v1 v2 g1 g2 =>
    (markTree_any n t v1 v2 1 W l h g1 g2 (by omega) (by have := HCnt.out hz; omega)).mono fun e w' ⟨h1, _, h3⟩ => ⟨_, h1, by omega, by have := HCnt.out hz; omega, h3⟩
  have HMkS : Hid (path.length ≤ 1048576 → ∀ (k1 : Nat) W l h b v, 0 < k1 → k1 ≤ 8388608 → OwnStrs W l h b v path → h ≤ W.heap.size → Calls Tryd.prog 16 #[v, .int .i64 (k1 : Int)] W fun e w' => ∃ k2 : Nat, e = .returned (.int .i64 (k2 : Int)) ∧ InR l h W w') := fun hz k1 W l h b v g0 g00 g1 g2 =>
    (markStringS_any path v b k1 W l h g1 g2 g0 (by omega)).mono fun e w' ⟨h1, _, h3, _⟩ => ⟨_, h1, h3⟩
  have HMkR : Hid (∀ W l h b v, OwnStrs W l h b v (listT n t path).1 → h ≤ W.heap.size → Calls Tryd.prog 16 #[v, .int .i64 1] W fun e w' => e = .returned (.int .i64 ((1 + (listT n t path).1.length : Nat) : Int)) ∧ StrsAt w' l h v (markL 1 (listT n t path).1) ∧ InR l h W w') := fun W l h b v g1 g2 =>
    (markStringS_any _ v b 1 W l h g1 g2 (by omega) (by have := @list_small n t path; omega)).mono fun e w' ⟨h1, h2, h3, _⟩ => ⟨h1, h2.strs, h3⟩
  have HHe : Hid (∀ W l h v, StrsAt W l h v (markL 1 (listT n t path).1) → h ≤ W.heap.size → Calls Tryd.prog 17 #[v, .int .i64 1] W fun e w' => e = .returned (.int .i64 ((1 + (listT n t path).1.length : Nat) : Int)) ∧ Below W.heap.size W w') := fun W l h v g1 g2 =>
    heldStringS_any _ v 1 W l h g1 g2 (by omega) (by have := @list_small n t path; omega)
  obtain ⟨pa, pc, rfl⟩ : ∃ pa pc, pv = .slice pa path.length pc := by obtain ⟨pa, pc, h, _⟩ := hpath; exact ⟨pa, pc, h⟩
  obtain ⟨va, vm, vc, ua, um, uc, rfl, rfl⟩ := hrep.slices
  clear hrep hpath HCnt hg
  show Calls Tryd.prog 4 #[.agg #[.bool (headT n t).1, .int .i64 (headT n t).2.1, .string (headT n t).2.2, .slice va vm vc, .slice ua um uc], .slice pa path.length pc] w _
  generalize listT n t path = R at HSp HIm HMkR HHe
  obtain ⟨rs, rc⟩ := R
  dsimp only at HSp HIm HMkR HHe
  generalize hm0 : 1 + rs.length = m0 at HMkR HHe
  clear hm0
  generalize szStrs path (szT n t 1048576) = sz2 at HSzS HLen
  generalize szT n t 1048576 = sz at HSz HSzS HLen HTo HSp HMkT
  generalize (headT n t).1 = hd at HSz HTo HSp HIm HEqT HMkT ⊢
  generalize (headT n t).2.1 = hm at HSz HTo HSp HIm HEqT HMkT ⊢
  generalize (headT n t).2.2 = hda at HSz HTo HSp HIm HEqT HMkT ⊢
  go_enter Tryd.func4, Tryd.ntmps4
  go_wp2_with fail
  generalize hW : w.alloc (Obj.cells #[.bool hd, .int .i64 hm, .string hda, .slice va vm vc, .slice ua um uc] 25) = W
  have HW : Hid (Below w.heap.size w W ∧ Blk W w.heap.size #[.bool hd, .int .i64 hm, .string hda, .slice va vm vc, .slice ua um uc] 25) := by
    subst hW
    exact ⟨HA.out _, Blk.new w _ _⟩
  clear hW HA
  refine (HSz.out W HW.out.1).mono ?_
  rintro e w1 ⟨rfl, hB1⟩
  have HBw1 : Hid (Below w.heap.size w w1) := HW.out.1.trans (hB1.mono HW.out.1.size)
  have HQ1 : Hid (Blk w1 w.heap.size #[.bool hd, .int .i64 hm, .string hda, .slice va vm vc, .slice ua um uc] 25) := HW.out.2.below hB1 HW.out.2.lt
  clear hB1
  by_cases hz : sz < 0
  · go_wp2_with fail
    go_ret
    exact ⟨rfl, HBw1.out⟩
  go_wp2_with fail
  refine (HSzS.out (by omega) w1 HBw1.out).mono ?_
  rintro e w1' ⟨rfl, rfl⟩
  by_cases hz2 : sz2 < 0
  · go_wp2_with fail
    go_ret
    exact ⟨rfl, HBw1.out⟩
  have hz' : 0 ≤ sz := by omega
  have HL : Hid (path.length ≤ 1048576) := HLen.out hz' (by omega)
  have x0 := HQ1.out.cell 0 _ rfl
  have x1 := HQ1.out.cell 1 _ rfl
  have x2 := HQ1.out.cell 2 _ rfl
  have x3 := HQ1.out.cell 3 _ rfl
  have x4 := HQ1.out.cell 4 _ rfl
  go_wp2_with fail
  refine (HTo.out hz' w1' HBw1.out).mono ?_
  rintro e w2 ⟨a2, m2, c2, b2, n2, d2, rfl, hO2, hB2⟩
  have HBw2 : Hid (Below w.heap.size w w2) := HBw1.out.trans (hB2.mono HBw1.out.size)
  have HQ2 : Hid (Blk w2 w.heap.size #[.bool hd, .int .i64 hm, .string hda, .slice va vm vc, .slice ua um uc] 25) := HQ1.out.below hB2 HQ1.out.lt
  have HO2 := hide hO2
  clear hB2 hO2 x0 x1 x2 x3 x4
  go_wp2_with fail
  refine (HToS.out HL.out w2 HBw2.out).mono ?_
  rintro e w3 ⟨a3, rfl, hO3, hB3⟩
  have HBw3 : Hid (Below w.heap.size w w3) := HBw2.out.trans (hB3.mono HBw2.out.size)
  have HQ3 : Hid (Blk w3 w.heap.size #[.bool hd, .int .i64 hm, .string hda, .slice va vm vc, .slice ua um uc] 25) := HQ2.out.below hB3 HQ2.out.lt
  have HR3 : Hid (Rep w3 w1'.heap.size w2.heap.size n t (.slice a2 m2 c2) (.slice b2 n2 d2) ∧ w2.heap.size ≤ w3.heap.size) := ⟨Rep.keep hB3 (Nat.le_refl _) _ _ _ _ (Own.rep _ _ _ _ _ _ HO2.out), hB3.size⟩
  have HO3 := hide hO3
  clear hB3 hO3
  go_wp2_with fail
  refine (HSp.out hz' HL.out w3 _ _ _ _ _ _ _ HR3.out.1 HR3.out.2 HO3.out.strs (Nat.le_refl _)).mono ?_
  rintro e w4 ⟨a4, c4, rfl, hR4, hB4⟩
  have HBw4 : Hid (Below w.heap.size w w4) := HBw3.out.trans (hB4.mono HBw3.out.size)
  have HQ4 : Hid (Blk w4 w.heap.size #[.bool hd, .int .i64 hm, .string hda, .slice va vm vc, .slice ua um uc] 25) := HQ3.out.below hB4 HQ3.out.lt
  have HR4 : Hid ((StrsIn rs w3.heap.size w4.heap.size (.slice a4 rs.length c4)) w4) := ⟨hR4, Nat.le_refl _⟩
  have x0 := HQ4.out.cell 0 _ rfl
  have x1 := HQ4.out.cell 1 _ rfl
  have x2 := HQ4.out.cell 2 _ rfl
  have x3 := HQ4.out.cell 3 _ rfl
  have x4 := HQ4.out.cell 4 _ rfl
  clear hB4 hR4 HO2 HR3 HO3
  go_wp2_with fail
  refine (HTo.out hz' w4 HBw4.out).mono ?_
  rintro e w6 ⟨a6, m6, c6, b6, n6, d6, rfl, hO6, hB6⟩
  have HO6 := hide hO6
  have HB6 : Hid (Below w.heap.size w w6 ∧ Blk w6 w.heap.size #[.bool hd, .int .i64 hm, .string hda, .slice va vm vc, .slice ua um uc] 25 ∧ (StrsIn rs w3.heap.size w4.heap.size (.slice a4 rs.length c4)) w6 ∧ w4.heap.size ≤ w6.heap.size) := ⟨HBw4.out.trans (hB6.mono HBw4.out.size), HQ4.out.below hB6 HQ4.out.lt, HR4.out.below hB6, hB6.size⟩
  clear hO6 hB6 x0 x1 x2 x3 x4
  go_wp2_with fail
  generalize hW7 : w6.alloc (Obj.cells #[.bool hd, .int .i64 hm, .string hda, .slice a6 m6 c6, .slice b6 n6 d6] 32) = W7
  have HW7 : Hid (Below w.heap.size w W7 ∧ Blk W7 w.heap.size #[.bool hd, .int .i64 hm, .string hda, .slice va vm vc, .slice ua um uc] 25 ∧ (StrsIn rs w3.heap.size w4.heap.size (.slice a4 rs.length c4)) W7 ∧ (OwnBox n t (.bool hd) (.int .i64 hm) (.string hda) w6.heap.size w4.heap.size w6.heap.size (.slice a6 m6 c6) (.slice b6 n6 d6)) W7 ∧ W7.heap.size = w6.heap.size + 1) := by
    subst hW7
    have hb : ∀ o, Below w6.heap.size w6 (w6.alloc o) := fun o => (Below.refl _ _).alloc (Nat.le_refl _) o
    exact ⟨HB6.out.1.alloc HB6.out.1.size _, HB6.out.2.1.alloc _, HB6.out.2.2.1.below (hb _), ⟨Blk.new _ _ _, Own.same _ _ _ _ _ _ (sameIn_below (hb _) (Nat.le_refl _)) HO6.out, by simp⟩, by simp⟩
  clear hW7 HO6
  refine (HToS.out HL.out W7 HW7.out.1).mono ?_
  rintro e w8 ⟨a8, rfl, hO8, hB8⟩
  have HB8 : Hid (Below w.heap.size w w8 ∧ Blk w8 w.heap.size #[.bool hd, .int .i64 hm, .string hda, .slice va vm vc, .slice ua um uc] 25 ∧ (StrsIn rs w3.heap.size w4.heap.size (.slice a4 rs.length c4)) w8 ∧ (OwnBox n t (.bool hd) (.int .i64 hm) (.string hda) w6.heap.size w4.heap.size w6.heap.size (.slice a6 m6 c6) (.slice b6 n6 d6)) w8 ∧ (OwnS path W7.heap.size w8.heap.size W7.heap.size (.slice a8 path.length path.length)) w8 ∧ W7.heap.size ≤ w8.heap.size) :=
    ⟨HW7.out.1.trans (hB8.mono HW7.out.1.size), HW7.out.2.1.below hB8 HW7.out.2.1.lt, HW7.out.2.2.1.below hB8, HW7.out.2.2.2.1.below hB8, ⟨hO8, Nat.le_refl _⟩, hB8.size⟩
  clear hO8 hB8
  have x0 := HB8.out.2.2.2.1.1.cell 0 _ rfl
  have x1 := HB8.out.2.2.2.1.1.cell 1 _ rfl
  have x2 := HB8.out.2.2.2.1.1.cell 2 _ rfl
  have x3 := HB8.out.2.2.2.1.1.cell 3 _ rfl
  have x4 := HB8.out.2.2.2.1.1.cell 4 _ rfl
  go_wp2_with fail
  refine (HIm.out w8 _ _ _ _ _ _ _ HB8.out.1 HB8.out.2.2.2.1.rep.2.1 HB8.out.2.2.2.1.2.2 HB8.out.2.2.2.2.1.1.strs HB8.out.2.2.2.2.1.2).mono ?_
  rintro e w9 ⟨a9, c9, h9, b9, rfl, hO9, hB9⟩
  have HOrd : Hid (w4.heap.size ≤ w6.heap.size ∧ W7.heap.size = w6.heap.size + 1 ∧ W7.heap.size ≤ w8.heap.size ∧ w8.heap.size ≤ w9.heap.size ∧ w.heap.size < w4.heap.size) := ⟨HB6.out.2.2.2, HW7.out.2.2.2.2, HB8.out.2.2.2.2.2, hB9.size, HQ4.out.lt⟩
  have H10 : Hid (KS w #[.bool hd, .int .i64 hm, .string hda, .slice va vm vc, .slice ua um uc] (StrsIn rs w3.heap.size w4.heap.size (.slice a4 rs.length c4)) (OwnBox n t (.bool hd) (.int .i64 hm) (.string hda) w6.heap.size w4.heap.size w6.heap.size (.slice a6 m6 c6) (.slice b6 n6 d6)) (OwnS path W7.heap.size w8.heap.size W7.heap.size (.slice a8 path.length path.length)) (OwnS rs w8.heap.size h9 b9 (.slice a9 rs.length c9)) w9) :=
    ⟨HB8.out.1.trans (hB9.mono HB8.out.1.size), HB8.out.2.1.below hB9 HB8.out.2.1.lt, HB8.out.2.2.1.below hB9, HB8.out.2.2.2.1.below hB9, HB8.out.2.2.2.2.1.below hB9, hO9⟩
  clear hO9 hB9 x0 x1 x2 x3 x4 HB6 HW7 HB8 HBw1 HBw2 HBw3 HBw4 HQ1 HQ2 HQ3 HQ4 HR4 HW HSz HSzS HSp HLen
  have hrb : (rc != rc) = false := by simp
  go_wp2_with fail
  refine (HEqS.out rs w9 _ _ _ _ _ _ H10.out.p10.1.strs H10.out.p10.2 H10.out.p6.1 H10.out.p6.2).mono ?_
  rintro e w11 ⟨rfl, hB11⟩
  have H11 := hide (H10.out.next ksL hB11)
  clear hB11 H10
  have x0 := H11.out.p8.1.cell 0 _ rfl
  have x1 := H11.out.p8.1.cell 1 _ rfl
  have x2 := H11.out.p8.1.cell 2 _ rfl
  have x3 := H11.out.p8.1.cell 3 _ rfl
  have x4 := H11.out.p8.1.cell 4 _ rfl
  have y0 := H11.out.box_.cell 0 _ rfl
  have y1 := H11.out.box_.cell 1 _ rfl
  have y2 := H11.out.box_.cell 2 _ rfl
  have y3 := H11.out.box_.cell 3 _ rfl
  have y4 := H11.out.box_.cell 4 _ rfl
  go_wp2_with fail
  go_cut [58] from 54 to 57 (fun x wx => x = .bool false ∧ Hid (Below w11.heap.size w11 wx))
  case first =>
    have HTo11 : Hid (∀ W, Below w11.heap.size w11 W → Calls Tryd.prog 8 #[.agg #[.bool hd, .int .i64 hm, .string hda, .slice va vm vc, .slice ua um uc]] W fun e w' => ∃ a m c a' m' c', e = .returned (.agg #[.bool hd, .int .i64 hm, .string hda, .slice a m c, .slice a' m' c']) ∧ Rep w' W.heap.size w'.heap.size n t (.slice a m c) (.slice a' m' c') ∧ Below w11.heap.size w11 w') := fun W hb =>
      (HTo.out hz' W (H11.out.below.trans (hb.mono H11.out.below.size))).mono fun e w' ⟨a, m, c, a', m', c', h1, h2, h3⟩ => ⟨a, m, c, a', m', c', h1, Own.rep _ _ _ _ _ _ h2, hb.trans (h3.mono hb.size)⟩
    have HEq11 : Hid (∀ W l2 v3 v4, Below w11.heap.size w11 W → Rep W l2 W.heap.size n t v3 v4 → Calls Tryd.prog 11 #[.agg #[.bool hd, .int .i64 hm, .string hda, .slice a6 m6 c6, .slice b6 n6 d6], .agg #[.bool hd, .int .i64 hm, .string hda, v3, v4]] W fun e w' => e = .returned (.bool true) ∧ Below w11.heap.size w11 w') := fun W l2 v3 v4 hb hr =>
      (HEqT.out W _ _ _ _ _ _ _ _ (H11.out.next ksL hb).p8.rep.2.1 (H11.out.next ksL hb).p8.2.2 hr (Nat.le_refl _)).mono fun e w' ⟨h1, h2⟩ => ⟨h1, hb.trans (h2.mono hb.size)⟩
    have HC11 : Hid (∀ W, Below w11.heap.size w11 W → Blk W w6.heap.size #[.bool hd, .int .i64 hm, .string hda, .slice a6 m6 c6, .slice b6 n6 d6] 32) := fun W hb => (H11.out.next ksL hb).p8.1
    go_region_with (first
      | (go_at_call 8
         refine (HTo11.out _ (by first | exact (Below.refl _ _).drew | exact Below.refl _ _)).mono ?_
         rintro e w7' ⟨a7, m7, c7, b7, n7, d7, rfl, hR7, hB7⟩
         have HR7 := hide hR7
         have HB7 := hide hB7
         have z0 := (HC11.out _ hB7).cell 0 _ rfl
         have z1 := (HC11.out _ hB7).cell 1 _ rfl
         have z2 := (HC11.out _ hB7).cell 2 _ rfl
         have z3 := (HC11.out _ hB7).cell 3 _ rfl
         have z4 := (HC11.out _ hB7).cell 4 _ rfl
         clear hR7 hB7)
      | (go_at_call 11
         refine (HEq11.out _ _ _ _ HB7.out HR7.out).mono ?_
         rintro e w8' ⟨rfl, hB8⟩
         have HB8 := hide hB8
         clear hB8))
    all_goals
      go_wp2_with fail
      go_meet
      exact ⟨rfl, HB8⟩
  case rest =>
    obtain ⟨rfl, HB12⟩ := hcut
    have H12 := hide (H11.out.next ksL HB12.out)
    clear x0 x1 x2 x3 x4 y0 y1 y2 y3 y4
    clear HB12 H11
    go_wp2_with fail
    refine (HToS.out HL.out wc H12.out.below).mono ?_
    rintro e w13 ⟨a13, rfl, hO13, hB13⟩
    have H13 := hide (H12.out.next ksL hB13)
    have HO13 := hide hO13
    clear hO13 hB13
    go_wp2_with fail
    refine (HEqS.out path w13 _ _ _ _ _ _ H13.out.p9.1.strs H13.out.p9.2 HO13.out.strs (Nat.le_refl _)).mono ?_
    rintro e w14 ⟨rfl, hB14⟩
    have H14 := hide (H13.out.next ksL hB14)
    clear hB14 HO13 H12 H13
    have x0 := H14.out.p8.1.cell 0 _ rfl
    have x1 := H14.out.p8.1.cell 1 _ rfl
    have x2 := H14.out.p8.1.cell 2 _ rfl
    have x3 := H14.out.p8.1.cell 3 _ rfl
    have x4 := H14.out.p8.1.cell 4 _ rfl
    go_wp2_with fail
    refine (HMkT.out hz' w14 _ _ _ _ H14.out.p8.2.1 H14.out.p8.2.2).mono ?_
    rintro e w15 ⟨k1, rfl, hk1, hk1', hI15⟩
    have H15 : Hid (KS w #[.bool hd, .int .i64 hm, .string hda, .slice va vm vc, .slice ua um uc] (StrsIn rs w3.heap.size w4.heap.size (.slice a4 rs.length c4)) Tru (OwnS path W7.heap.size w8.heap.size W7.heap.size (.slice a8 path.length path.length)) (OwnS rs w8.heap.size h9 b9 (.slice a9 rs.length c9)) w15) := by
      obtain ⟨o1, o2, o3, o4, o5⟩ := HOrd.out
      have hs := H14.out.p10.2
      exact ⟨H14.out.below.trans (hI15.toBelow (by omega) H14.out.below.size), H14.out.box_.inr hI15 (by omega), H14.out.p6.belowB (hI15.toBelow (B := w4.heap.size) (Nat.le_refl _) H14.out.p6.2) (Nat.le_refl _), trivial, H14.out.p9.inr hI15 (.inr (by omega)), H14.out.p10.inr hI15 (.inr (by omega))⟩
    have HK1 : Hid (0 < k1 ∧ k1 ≤ 8388608) := ⟨hk1, hk1'⟩
    clear hI15 H14 hk1 hk1'
    clear x0 x1 x2 x3 x4
    go_wp2_with fail
    refine (HMkS.out HL.out k1 w15 _ _ _ _ HK1.out.1 HK1.out.2 H15.out.p9.1 H15.out.p9.2).mono ?_
    rintro e w16 ⟨k2, rfl, hI16⟩
    have H16 : Hid (KS w #[.bool hd, .int .i64 hm, .string hda, .slice va vm vc, .slice ua um uc] (StrsIn rs w3.heap.size w4.heap.size (.slice a4 rs.length c4)) Tru Tru (OwnS rs w8.heap.size h9 b9 (.slice a9 rs.length c9)) w16) := by
      obtain ⟨o1, o2, o3, o4, o5⟩ := HOrd.out
      have hs := H15.out.p9.2
      exact ⟨H15.out.below.trans (hI16.toBelow (by omega) H15.out.below.size), H15.out.box_.inr hI16 (by omega), H15.out.p6.belowB (hI16.toBelow (B := W7.heap.size) (Nat.le_refl _) (by omega)) (by omega), trivial, trivial, H15.out.p10.inr hI16 (.inr (by omega))⟩
    have hk2n : ¬ ((k2 : Int) < 0) := by omega
    clear hI16 H15 HK1
    go_wp2_with fail
    refine (HEqS.out rs w16 _ _ _ _ _ _ H16.out.p10.1.strs H16.out.p10.2 H16.out.p6.1 H16.out.p6.2).mono ?_
    rintro e w17 ⟨rfl, hB17⟩
    have H17 := hide (H16.out.next ksM hB17)
    clear hB17 H16
    go_wp2_with fail
    refine (HMkR.out w17 _ _ _ _ H17.out.p10.1 H17.out.p10.2).mono ?_
    rintro e w18 ⟨rfl, hR18, hI18⟩
    have H18 : Hid (KS w #[.bool hd, .int .i64 hm, .string hda, .slice va vm vc, .slice ua um uc] (StrsIn rs w3.heap.size w4.heap.size (.slice a4 rs.length c4)) Tru Tru (StrsIn (markL 1 rs) w8.heap.size h9 (.slice a9 rs.length c9)) w18) := by
      obtain ⟨o1, o2, o3, o4, o5⟩ := HOrd.out
      have hs := H17.out.p10.2
      have hs6 := H17.out.p6.2
      have hsb := H17.out.box_.lt
      exact ⟨H17.out.below.trans (hI18.toBelow (by omega) H17.out.below.size), H17.out.box_.inr hI18 (by omega), H17.out.p6.belowB (hI18.toBelow (B := w4.heap.size) (by omega) hs6) (Nat.le_refl _), trivial, trivial, ⟨hR18, Nat.le_trans hs hI18.size⟩⟩
    have hm0n : ¬ ((m0 : Int) < 0) := by omega
    clear hR18 hI18 H17
    go_wp2_with fail
    refine (HHe.out w18 _ _ _ H18.out.p10.1 H18.out.p10.2).mono ?_
    rintro e w19 ⟨rfl, hB19⟩
    have H19 := hide (H18.out.next ksN hB19)
    clear hB19 H18
    have x0 := H19.out.box_.cell 0 _ rfl
    have x1 := H19.out.box_.cell 1 _ rfl
    have x2 := H19.out.box_.cell 2 _ rfl
    have x3 := H19.out.box_.cell 3 _ rfl
    have x4 := H19.out.box_.cell 4 _ rfl
    go_wp2_with fail
    refine (HTo.out hz' w19 H19.out.below).mono ?_
    rintro e w20 ⟨a20, m20, c20, b20, n20, d20, rfl, hO20, hB20⟩
    have H20 := hide (H19.out.next ksN hB20)
    have HO20 := hide hO20
    clear hO20 hB20 H19
    clear x0 x1 x2 x3 x4
    go_wp2_with fail
    refine (HToS.out HL.out w20 H20.out.below).mono ?_
    rintro e w21 ⟨a21, rfl, hO21, hB21⟩
    have H21 := hide (H20.out.next ksN hB21)
    have HO21 := hide hO21
    have HR21 : Hid (Rep w21 w19.heap.size w20.heap.size n t (.slice a20 m20 c20) (.slice b20 n20 d20) ∧ w20.heap.size ≤ w21.heap.size) := ⟨Rep.keep hB21 (Nat.le_refl _) _ _ _ _ (Own.rep _ _ _ _ _ _ HO20.out), hB21.size⟩
    clear hO21 hB21 H20 HO20
    go_wp2_with fail
    refine (HIm.out w21 _ _ _ _ _ _ _ H21.out.below HR21.out.1 HR21.out.2 HO21.out.strs (Nat.le_refl _)).mono ?_
    rintro e w22 ⟨a22, c22, h22, b22, rfl, hO22, hB22⟩
    have H22 := hide (H21.out.next ksN hB22)
    have HO22 := hide hO22
    clear hO22 hB22 H21 HR21 HO21
    go_wp2_with fail
    refine (HEqS.out rs w22 _ _ _ _ _ _ HO22.out.1.strs HO22.out.2 H22.out.p6.1 H22.out.p6.2).mono ?_
    rintro e w24 ⟨rfl, hB24⟩
    have H24 := hide (H22.out.next ksN hB24)
    clear hB24 H22 HO22
    go_wp2_with fail
    refine (HHe.out w24 _ _ _ H24.out.p10.1 H24.out.p10.2).mono ?_
    rintro e w25 ⟨rfl, hB25⟩
    have H25 := hide (H24.out.next ksN hB25)
    clear hB25 H24
    go_wp2_with fail
    go_ret
    exact ⟨rfl, H25.out.below⟩

end Go.Proofs.YtnfidecbbijpfaaDoor
