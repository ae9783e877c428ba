/- The law FnExactTreeAt: it returns true, whatever it is called with. -/
import Derived.Test.YtnfidecbbijpfaaProg
import Derived.Test.YtnfidecbbijpfaaAtSmall
namespace Go.Proofs.Ytnfidecbbijpfaa
open Go.RowKit

theorem RepBox.belowB {m : Nat} {u : T m} {c0 c1 c2 : Value} {B lo hi : Nat} {nv kv : Value} {W W' : World} (h : RepBox m u c0 c1 c2 B lo hi nv kv W) {X : Nat} (hb : Below X W W') (h1 : B < X) (h2 : hi ≤ X) : RepBox m u c0 c1 c2 B lo hi nv kv W' :=
  ⟨h.1.below hb h1, Rep.keep hb h2 _ _ _ _ h.2.1, Nat.le_trans h.2.2 hb.size⟩

/-- What the law keeps while it goes on: its own argument, what the specification gave, the arguments and the result of the call. -/
structure KS (w : World) (A : Array Value) (P6 P8 P9 P10 : World → Prop) (W : World) : Prop where
  below : Below w.heap.size w W
  box_ : Blk W w.heap.size A 25
  p6 : P6 W
  p8 : P8 W
  p9 : P9 W
  p10 : P10 W
def Clo (P : World → Prop) : Prop := ∀ W W', P W → Below W.heap.size W W' → P W'
theorem KS.next {w : World} {A : Array Value} {P6 P8 P9 P10 : World → Prop} {W W' : World} (h : KS w A P6 P8 P9 P10 W) (hc : Clo P6 ∧ Clo P8 ∧ Clo P9 ∧ Clo P10) (hb : Below W.heap.size W W') : KS w A P6 P8 P9 P10 W' :=
  ⟨h.below.trans (hb.mono h.below.size), h.box_.below hb h.box_.lt, hc.1 _ _ h.p6 hb, hc.2.1 _ _ h.p8 hb, hc.2.2.1 _ _ h.p9 hb, hc.2.2.2 _ _ h.p10 hb⟩
theorem ksA {m6 : Nat} {u6 : T m6} {x0 x1 x2 : Value} {B6 l6 h6 : Nat} {n6 k6 : Value} {m8 : Nat} {u8 : T m8} {y0 y1 y2 : Value} {B8 l8 h8 : Nat} {n8 k8 : Value} {l : List ByteArray} {l9 h9 b9 : Nat} {v9 : Value} {m10 : Nat} {u10 : T m10} {z0 z1 z2 : Value} {B10 l10 h10 : Nat} {n10 k10 : Value} :
    Clo (RepBox m6 u6 x0 x1 x2 B6 l6 h6 n6 k6) ∧ Clo (OwnBox m8 u8 y0 y1 y2 B8 l8 h8 n8 k8) ∧ Clo (OwnS l l9 h9 b9 v9) ∧ Clo (OwnBox m10 u10 z0 z1 z2 B10 l10 h10 n10 k10) :=
  ⟨fun _ _ => RepBox.below, fun _ _ => OwnBox.below, fun _ _ => OwnS.below, fun _ _ => OwnBox.below⟩
def Tru (_ : World) : Prop := True
/-- Behind the marks of the arguments: only what the specification gave and the result count. -/
theorem ksB {m6 : Nat} {u6 : T m6} {x0 x1 x2 : Value} {B6 l6 h6 : Nat} {n6 k6 : Value} {m10 : Nat} {u10 : T m10} {z0 z1 z2 : Value} {B10 l10 h10 : Nat} {n10 k10 : Value} {P : World → Prop} (hP : Clo P) :
    Clo (RepBox m6 u6 x0 x1 x2 B6 l6 h6 n6 k6) ∧ Clo Tru ∧ Clo P ∧ Clo (OwnBox m10 u10 z0 z1 z2 B10 l10 h10 n10 k10) :=
  ⟨fun _ _ => RepBox.below, fun _ _ _ _ => trivial, hP, fun _ _ => OwnBox.below⟩
theorem ksC {m6 : Nat} {u6 : T m6} {x0 x1 x2 : Value} {B6 l6 h6 : Nat} {n6 k6 : Value} {m10 : Nat} {u10 : T m10} {z0 z1 z2 : Value} {B10 l10 h10 : Nat} {n10 k10 : Value} :
    Clo (RepBox m6 u6 x0 x1 x2 B6 l6 h6 n6 k6) ∧ Clo Tru ∧ Clo Tru ∧ Clo (RepBox m10 u10 z0 z1 z2 B10 l10 h10 n10 k10) :=
  ⟨fun _ _ => RepBox.below, fun _ _ _ _ => trivial, fun _ _ _ _ => trivial, fun _ _ => RepBox.below⟩

set_option maxHeartbeats 8000000 in
set_option maxRecDepth 100000 in
theorem treeAtLaw_any (n : Nat) (t : T n) (nv kv pv : Value) (path : List ByteArray) (w : World) (lo hi lo' hi' : Nat) (hrep : Rep w lo hi n t nv kv) (hpath : StrsAt w lo' hi' pv path) (hhi : hi ≤ w.heap.size) (hhi' : hi' ≤ w.heap.size) :
    Calls Try.prog 5 #[aggT n t nv kv, pv] w fun e w' => e = .returned (.bool true) ∧ Below w.heap.size w w' := by
  have HA : Hid (∀ o, Below w.heap.size w (w.alloc o)) := fun o => (Below.refl _ _).alloc (Nat.le_refl _) o
  have HSz : Hid (∀ W, Below w.heap.size w W → Calls Try.prog 6 #[.agg #[.bool (headT n t).1, .int .i64 (headT n t).2.1, .string (headT n t).2.2, nv, kv], .int .i64 1048576] W fun e w' => e = .returned (.int .i64 (szT n t 1048576)) ∧ Below W.heap.size W w') := fun W hb =>
    szTree_any n t nv kv 1048576 W lo hi (Rep.keep hb hhi _ _ _ _ hrep) (Nat.le_trans hhi hb.size) (by omega) (by omega)
  have HSzS : Hid (0 ≤ szT n t 1048576 → ∀ W, Below w.heap.size w W → Calls Try.prog 13 #[pv, .int .i64 (szT n t 1048576)] W fun e w' => e = .returned (.int .i64 (szStrs path (szT n t 1048576))) ∧ w' = W) := fun h0 W hb =>
    szStringS_any path pv _ W lo' hi' (hpath.keep hb hhi') h0 (by have := szT_le n t 1048576 (by omega); omega)
  have HLen : Hid (0 ≤ szT n t 1048576 → 0 ≤ szStrs path (szT n t 1048576) → path.length ≤ 1048576) := fun h0 h1 => by
    have h2 := szStrs_len path _ h1
    have h3 := szT_le n t 1048576 (by omega)
    omega
  have HTo : Hid (0 ≤ szT n t 1048576 → ∀ W, Below w.heap.size w W → Calls Try.prog 8 #[.agg #[.bool (headT n t).1, .int .i64 (headT n t).2.1, .string (headT n t).2.2, nv, kv]] W fun e w' => ∃ a m c a' m' c', e = .returned (.agg #[.bool (headT n t).1, .int .i64 (headT n t).2.1, .string (headT n t).2.2, .slice a m c, .slice a' m' c']) ∧ Own w' n W.heap.size w'.heap.size t (.slice a m c) (.slice a' m' c') ∧ Below W.heap.size W w') := fun hz W hb =>
    (toTree_any n t nv kv W lo hi (Rep.keep hb hhi _ _ _ _ hrep) (Nat.le_trans hhi hb.size) (szT_sm n t _ (by omega) (by omega) hz)).mono fun e w' ⟨nv', kv', h1, h2, h3⟩ => by
      obtain ⟨a, m, c, a', m', c', rfl, rfl⟩ := (Own.rep _ _ _ _ _ _ h2).slices
      exact ⟨a, m, c, a', m', c', h1, h2, h3⟩
  have HToS : Hid (path.length ≤ 1048576 → ∀ W, Below w.heap.size w W → Calls Try.prog 15 #[pv] W fun e w' => ∃ a, e = .returned (.slice a path.length path.length) ∧ OwnStrs w' W.heap.size w'.heap.size W.heap.size (.slice a path.length path.length) path ∧ Below W.heap.size W w') := fun hz W hb =>
    (toStringS_cap path pv W lo' hi' (hpath.keep hb hhi') (Nat.le_trans hhi' hb.size) hz).mono fun e w' ⟨v', h1, h2, h3, _, a, h5⟩ => by
      subst h5
      exact ⟨a, h1, h2, h3⟩
  have HSp : Hid (0 ≤ szT n t 1048576 → path.length ≤ 1048576 → ∀ W l1 h1 l2 h2 v1 v2 a, Rep W l1 h1 n t v1 v2 → h1 ≤ W.heap.size → StrsAt W l2 h2 (.slice a path.length path.length) path → h2 ≤ W.heap.size → Calls Try.prog 14 #[.agg #[.bool (headT n t).1, .int .i64 (headT n t).2.1, .string (headT n t).2.2, v1, v2], .slice a path.length path.length] W fun e w' => ∃ a m c a' m' c', e = .returned (.tuple #[.agg #[.bool (headT (resT n t path).1.1 (resT n t path).1.2).1, .int .i64 (headT (resT n t path).1.1 (resT n t path).1.2).2.1, .string (headT (resT n t path).1.1 (resT n t path).1.2).2.2, .slice a m c, .slice a' m' c'], .bool (resT n t path).2]) ∧ Rep w' W.heap.size w'.heap.size (resT n t path).1.1 (resT n t path).1.2 (.slice a m c) (.slice a' m' c') ∧ Below W.heap.size W w') := fun hz hl W l1 h1 l2 h2 v1 v2 a g1 g2 g3 g4 =>
    (specTreeAt_any n t v1 v2 a path.length path W l1 h1 l2 h2 g1 g3 (Nat.le_refl _) (by unfold maxLen; omega) g2 g4 (by have := szT_count n t 1048576 (by omega) hz; omega) (szT_sm n t _ (by omega) (by omega) hz)).mono fun e w' ⟨nv', kv', h1, h2, h3⟩ => by
      obtain ⟨a, m, c, a', m', c', rfl, rfl⟩ := h2.slices
      exact ⟨a, m, c, a', m', c', h1, h2, h3⟩
  have HIm : Hid (∀ W l1 h1 l2 h2 v1 v2 a, Rep W l1 h1 n t v1 v2 → h1 ≤ W.heap.size → StrsAt W l2 h2 (.slice a path.length path.length) path → h2 ≤ W.heap.size → Calls Try.prog 16 #[.agg #[.bool (headT n t).1, .int .i64 (headT n t).2.1, .string (headT n t).2.2, v1, v2], .slice a path.length path.length] W fun e w' => ∃ a m c a' m' c', e = .returned (.tuple #[.agg #[.bool (headT (resT n t path).1.1 (resT n t path).1.2).1, .int .i64 (headT (resT n t path).1.1 (resT n t path).1.2).2.1, .string (headT (resT n t path).1.1 (resT n t path).1.2).2.2, .slice a m c, .slice a' m' c'], .bool (resT n t path).2]) ∧ Own w' (resT n t path).1.1 W.heap.size w'.heap.size (resT n t path).1.2 (.slice a m c) (.slice a' m' c') ∧ Below W.heap.size W w') := fun W l1 h1 l2 h2 v1 v2 a g1 g2 g3 g4 =>
    (implTreeAt_any n t v1 v2 _ path W l1 h1 l2 h2 g1 g3 g2 g4).mono fun e w' ⟨nv', kv', h1, h2, h3⟩ => by
      obtain ⟨a, m, c, a', m', c', rfl, rfl⟩ := (Own.rep _ _ _ _ _ _ h2).slices
      exact ⟨a, m, c, a', m', c', h1, h2, h3⟩
  have HEqT : Hid (∀ W l1 h1 l2 h2 v1 v2 v3 v4, Rep W l1 h1 n t v1 v2 → h1 ≤ W.heap.size → Rep W l2 h2 n t v3 v4 → h2 ≤ W.heap.size → Calls Try.prog 10 #[.agg #[.bool (headT n t).1, .int .i64 (headT n t).2.1, .string (headT n t).2.2, v1, v2], .agg #[.bool (headT n t).1, .int .i64 (headT n t).2.1, .string (headT n t).2.2, v3, v4]] W fun e w' => e = .returned (.bool true) ∧ Below W.heap.size W w') := fun W l1 h1 l2 h2 v1 v2 v3 v4 g1 g2 g3 g4 =>
    eqTree_any n t v1 v2 v3 v4 W l1 h1 l2 h2 g1 g3 g2 g4
  have HEqS : Hid (∀ W l1 h1 l2 h2 v1 v2, StrsAt W l1 h1 v1 path → h1 ≤ W.heap.size → StrsAt W l2 h2 v2 path → h2 ≤ W.heap.size → Calls Try.prog 17 #[v1, v2] W fun e w' => e = .returned (.bool true) ∧ Below W.heap.size W w') := fun W l1 h1 l2 h2 v1 v2 g1 g2 g3 g4 =>
    eqStringS_any path v1 v2 W l1 h1 l2 h2 g1 g3 g2 g4
  have HCnt : Hid (0 ≤ szT n t 1048576 → cntT n t ≤ 4194304) := fun hz => by
    have h1 := szT_cnt n t 1048576 (by omega) hz
    omega
  have HMkT : Hid (0 ≤ szT n t 1048576 → ∀ W l h v1 v2, Own W n l h t v1 v2 → h ≤ W.heap.size → Calls Try.prog 18 #[.agg #[.bool (headT n t).1, .int .i64 (headT n t).2.1, .string (headT n t).2.2, v1, v2], .int .i64 1] W fun e w' => ∃ k1 : Nat, e = .returned (.int .i64 (k1 : Int)) ∧ 0 < k1 ∧ k1 ≤ 8388608 ∧ InR l h W w') := fun hz W l h v1 v2 g1 g2 =>
    (markTree_any n t v1 v2 1 W l h g1 g2 (by omega) (by have := HCnt.out hz; omega)).mono fun e w' ⟨h1, _, h3⟩ => ⟨_, h1, by omega, by have := HCnt.out hz; omega, h3⟩
  have HMkS : Hid (path.length ≤ 1048576 → ∀ (k1 : Nat) W l h b v, 0 < k1 → k1 ≤ 8388608 → OwnStrs W l h b v path → h ≤ W.heap.size → Calls Try.prog 19 #[v, .int .i64 (k1 : Int)] W fun e w' => ∃ k2 : Nat, e = .returned (.int .i64 (k2 : Int)) ∧ InR l h W w') := fun hz k1 W l h b v g0 g00 g1 g2 =>
    (markStringS_any path v b k1 W l h g1 g2 g0 (by omega)).mono fun e w' ⟨h1, _, h3, _⟩ => ⟨_, h1, h3⟩
  have HMkR : Hid (0 ≤ szT n t 1048576 → ∀ W l h v1 v2, Own W (resT n t path).1.1 l h (resT n t path).1.2 v1 v2 → h ≤ W.heap.size → Calls Try.prog 18 #[.agg #[.bool (headT (resT n t path).1.1 (resT n t path).1.2).1, .int .i64 (headT (resT n t path).1.1 (resT n t path).1.2).2.1, .string (headT (resT n t path).1.1 (resT n t path).1.2).2.2, v1, v2], .int .i64 1] W fun e w' => e = .returned (.int .i64 ((1 + cntT (resT n t path).1.1 (resT n t path).1.2 : Nat) : Int)) ∧ Rep w' l h (resT n t path).1.1 (markT (resT n t path).1.1 (resT n t path).1.2 1) v1 v2 ∧ InR l h W w') := fun hz W l h v1 v2 g1 g2 =>
    (markTree_any _ (resT n t path).1.2 v1 v2 1 W l h g1 g2 (by omega) (by have := res_cnt (path := path) (HCnt.out hz); omega)).mono fun e w' ⟨h1, h2, h3⟩ => ⟨h1, Own.rep _ _ _ _ _ _ h2, h3⟩
  have HHe : Hid (0 ≤ szT n t 1048576 → ∀ W l h v1 v2, Rep W l h (resT n t path).1.1 (markT (resT n t path).1.1 (resT n t path).1.2 1) v1 v2 → h ≤ W.heap.size → Calls Try.prog 20 #[.agg #[.bool (headT (resT n t path).1.1 (resT n t path).1.2).1, .int .i64 (headT (resT n t path).1.1 (resT n t path).1.2).2.1, .string (headT (resT n t path).1.1 (resT n t path).1.2).2.2, v1, v2], .int .i64 1] W fun e w' => e = .returned (.int .i64 ((1 + cntT (resT n t path).1.1 (resT n t path).1.2 : Nat) : Int)) ∧ Below W.heap.size W w') := fun hz W l h v1 v2 g1 g2 =>
    heldTree_any _ (resT n t path).1.2 v1 v2 1 _ _ _ W l h g1 g2 (by omega) (by have := res_cnt (path := path) (HCnt.out hz); omega)
  have HEqR : Hid (∀ W l1 h1 l2 h2 v1 v2 v3 v4, Rep W l1 h1 (resT n t path).1.1 (resT n t path).1.2 v1 v2 → h1 ≤ W.heap.size → Rep W l2 h2 (resT n t path).1.1 (resT n t path).1.2 v3 v4 → h2 ≤ W.heap.size → Calls Try.prog 10 #[.agg #[.bool (headT (resT n t path).1.1 (resT n t path).1.2).1, .int .i64 (headT (resT n t path).1.1 (resT n t path).1.2).2.1, .string (headT (resT n t path).1.1 (resT n t path).1.2).2.2, v1, v2], .agg #[.bool (headT (resT n t path).1.1 (resT n t path).1.2).1, .int .i64 (headT (resT n t path).1.1 (resT n t path).1.2).2.1, .string (headT (resT n t path).1.1 (resT n t path).1.2).2.2, v3, v4]] W fun e w' => e = .returned (.bool true) ∧ Below W.heap.size W w') := fun W l1 h1 l2 h2 v1 v2 v3 v4 g1 g2 g3 g4 =>
    eqTree_any _ _ v1 v2 v3 v4 W l1 h1 l2 h2 g1 g3 g2 g4
  obtain ⟨pa, pc, rfl⟩ : ∃ pa pc, pv = .slice pa path.length pc := by obtain ⟨pa, pc, h, _⟩ := hpath; exact ⟨pa, pc, h⟩
  obtain ⟨va, vm, vc, ua, um, uc, rfl, rfl⟩ := hrep.slices
  clear hrep hpath HCnt
  show Calls Try.prog 5 #[.agg #[.bool (headT n t).1, .int .i64 (headT n t).2.1, .string (headT n t).2.2, .slice va vm vc, .slice ua um uc], .slice pa path.length pc] w _
  generalize hR : resT n t path = R at HSp HIm HMkR HHe HEqR
  clear hR
  obtain ⟨⟨M, U⟩, rb⟩ := R
  dsimp only at HSp HIm HMkR HHe HEqR
  generalize markT M U 1 = UM at HMkR HHe
  generalize 1 + cntT M U = m0 at HMkR HHe
  generalize (headT M U).1 = r0 at HSp HIm HMkR HHe HEqR
  generalize (headT M U).2.1 = r1 at HSp HIm HMkR HHe HEqR
  generalize (headT M U).2.2 = r2 at HSp HIm HMkR HHe HEqR
  generalize szStrs path (szT n t 1048576) = sz2 at HSzS HLen
  generalize szT n t 1048576 = sz at HSz HSzS HLen HTo HSp HMkT HMkR HHe
  generalize (headT n t).1 = hd at HSz HTo HSp HIm HEqT HMkT ⊢
  generalize (headT n t).2.1 = hm at HSz HTo HSp HIm HEqT HMkT ⊢
  generalize (headT n t).2.2 = hda at HSz HTo HSp HIm HEqT HMkT ⊢
  go_enter Try.func5, Try.ntmps5
  go_wp2_with fail
  generalize hW : w.alloc (Obj.cells #[.bool hd, .int .i64 hm, .string hda, .slice va vm vc, .slice ua um uc] 25) = W
  have HW : Hid (Below w.heap.size w W ∧ Blk W w.heap.size #[.bool hd, .int .i64 hm, .string hda, .slice va vm vc, .slice ua um uc] 25) := by
    subst hW
    exact ⟨HA.out _, Blk.new w _ _⟩
  clear hW HA
  refine (HSz.out W HW.out.1).mono ?_
  rintro e w1 ⟨rfl, hB1⟩
  have HBw1 : Hid (Below w.heap.size w w1) := HW.out.1.trans (hB1.mono HW.out.1.size)
  have HQ1 : Hid (Blk w1 w.heap.size #[.bool hd, .int .i64 hm, .string hda, .slice va vm vc, .slice ua um uc] 25) := HW.out.2.below hB1 HW.out.2.lt
  clear hB1
  by_cases hz : sz < 0
  · go_wp2_with fail
    go_ret
    exact ⟨rfl, HBw1.out⟩
  go_wp2_with fail
  refine (HSzS.out (by omega) w1 HBw1.out).mono ?_
  rintro e w1' ⟨rfl, rfl⟩
  by_cases hz2 : sz2 < 0
  · go_wp2_with fail
    go_ret
    exact ⟨rfl, HBw1.out⟩
  have hz' : 0 ≤ sz := by omega
  have HL : Hid (path.length ≤ 1048576) := HLen.out hz' (by omega)
  have x0 := HQ1.out.cell 0 _ rfl
  have x1 := HQ1.out.cell 1 _ rfl
  have x2 := HQ1.out.cell 2 _ rfl
  have x3 := HQ1.out.cell 3 _ rfl
  have x4 := HQ1.out.cell 4 _ rfl
  go_wp2_with fail
  refine (HTo.out hz' w1' HBw1.out).mono ?_
  rintro e w2 ⟨a2, m2, c2, b2, n2, d2, rfl, hO2, hB2⟩
  have HBw2 : Hid (Below w.heap.size w w2) := HBw1.out.trans (hB2.mono HBw1.out.size)
  have HQ2 : Hid (Blk w2 w.heap.size #[.bool hd, .int .i64 hm, .string hda, .slice va vm vc, .slice ua um uc] 25) := HQ1.out.below hB2 HQ1.out.lt
  have HO2 := hide hO2
  clear hB2 hO2 x0 x1 x2 x3 x4
  go_wp2_with fail
  refine (HToS.out HL.out w2 HBw2.out).mono ?_
  rintro e w3 ⟨a3, rfl, hO3, hB3⟩
  have HBw3 : Hid (Below w.heap.size w w3) := HBw2.out.trans (hB3.mono HBw2.out.size)
  have HQ3 : Hid (Blk w3 w.heap.size #[.bool hd, .int .i64 hm, .string hda, .slice va vm vc, .slice ua um uc] 25) := HQ2.out.below hB3 HQ2.out.lt
  have HR3 : Hid (Rep w3 w1'.heap.size w2.heap.size n t (.slice a2 m2 c2) (.slice b2 n2 d2) ∧ w2.heap.size ≤ w3.heap.size) := ⟨Rep.keep hB3 (Nat.le_refl _) _ _ _ _ (Own.rep _ _ _ _ _ _ HO2.out), hB3.size⟩
  have HO3 := hide hO3
  clear hB3 hO3
  go_wp2_with fail
  refine (HSp.out hz' HL.out w3 _ _ _ _ _ _ _ HR3.out.1 HR3.out.2 HO3.out.strs (Nat.le_refl _)).mono ?_
  rintro e w4 ⟨a4, m4, c4, b4, n4, d4, rfl, hR4, hB4⟩
  have HBw4 : Hid (Below w.heap.size w w4) := HBw3.out.trans (hB4.mono HBw3.out.size)
  have HQ4 : Hid (Blk w4 w.heap.size #[.bool hd, .int .i64 hm, .string hda, .slice va vm vc, .slice ua um uc] 25) := HQ3.out.below hB4 HQ3.out.lt
  have HR4 := hide hR4
  have x0 : ∀ o, (w4.alloc o).cell? ⟨w.heap.size, 0, none⟩ = some (.bool hd) := fun o => (HQ4.out.alloc o).cell 0 _ rfl
  have x1 : ∀ o, (w4.alloc o).cell? ⟨w.heap.size, 1, none⟩ = some (.int .i64 hm) := fun o => (HQ4.out.alloc o).cell 1 _ rfl
  have x2 : ∀ o, (w4.alloc o).cell? ⟨w.heap.size, 2, none⟩ = some (.string hda) := fun o => (HQ4.out.alloc o).cell 2 _ rfl
  have x3 : ∀ o, (w4.alloc o).cell? ⟨w.heap.size, 3, none⟩ = some (.slice va vm vc) := fun o => (HQ4.out.alloc o).cell 3 _ rfl
  have x4 : ∀ o, (w4.alloc o).cell? ⟨w.heap.size, 4, none⟩ = some (.slice ua um uc) := fun o => (HQ4.out.alloc o).cell 4 _ rfl
  clear hB4 hR4 HO2 HR3 HO3
  go_wp2_with fail
  generalize hW5 : w4.alloc (Obj.cells #[.bool r0, .int .i64 r1, .string r2, .slice a4 m4 c4, .slice b4 n4 d4] 30) = W5
  have HW5 : Hid (Below w.heap.size w W5 ∧ Blk W5 w.heap.size #[.bool hd, .int .i64 hm, .string hda, .slice va vm vc, .slice ua um uc] 25 ∧ RepBox M U (.bool r0) (.int .i64 r1) (.string r2) w4.heap.size w3.heap.size w4.heap.size (.slice a4 m4 c4) (.slice b4 n4 d4) W5 ∧ W5.heap.size = w4.heap.size + 1) := by
    subst hW5
    exact ⟨HBw4.out.alloc HBw4.out.size _, HQ4.out.alloc _, ⟨Blk.new _ _ _, Rep.keep ((Below.refl _ _).alloc (Nat.le_refl _) _) (Nat.le_refl _) _ _ _ _ HR4.out, by simp⟩, by simp⟩
  clear hW5 x0 x1 x2 x3 x4 HR4 HQ4
  refine (HTo.out hz' W5 HW5.out.1).mono ?_
  rintro e w6 ⟨a6, m6, c6, b6, n6, d6, rfl, hO6, hB6⟩
  have HO6 := hide hO6
  have HB6 : Hid (Below w.heap.size w w6 ∧ Blk w6 w.heap.size #[.bool hd, .int .i64 hm, .string hda, .slice va vm vc, .slice ua um uc] 25 ∧ RepBox M U (.bool r0) (.int .i64 r1) (.string r2) w4.heap.size w3.heap.size w4.heap.size (.slice a4 m4 c4) (.slice b4 n4 d4) w6 ∧ W5.heap.size ≤ w6.heap.size) := ⟨HW5.out.1.trans (hB6.mono HW5.out.1.size), HW5.out.2.1.below hB6 HW5.out.2.1.lt, HW5.out.2.2.1.below hB6, hB6.size⟩
  clear hO6 hB6
  go_wp2_with fail
  generalize hW7 : w6.alloc (Obj.cells #[.bool hd, .int .i64 hm, .string hda, .slice a6 m6 c6, .slice b6 n6 d6] 30) = W7
  have HW7 : Hid (Below w.heap.size w W7 ∧ Blk W7 w.heap.size #[.bool hd, .int .i64 hm, .string hda, .slice va vm vc, .slice ua um uc] 25 ∧ RepBox M U (.bool r0) (.int .i64 r1) (.string r2) w4.heap.size w3.heap.size w4.heap.size (.slice a4 m4 c4) (.slice b4 n4 d4) W7 ∧ OwnBox n t (.bool hd) (.int .i64 hm) (.string hda) w6.heap.size W5.heap.size w6.heap.size (.slice a6 m6 c6) (.slice b6 n6 d6) W7 ∧ W7.heap.size = w6.heap.size + 1) := by
    subst hW7
    have hb : ∀ o, Below w6.heap.size w6 (w6.alloc o) := fun o => (Below.refl _ _).alloc (Nat.le_refl _) o
    exact ⟨HB6.out.1.alloc HB6.out.1.size _, HB6.out.2.1.alloc _, HB6.out.2.2.1.below (hb _), ⟨Blk.new _ _ _, Own.same _ _ _ _ _ _ (sameIn_below (hb _) (Nat.le_refl _)) HO6.out, by simp⟩, by simp⟩
  clear hW7 HO6
  refine (HToS.out HL.out W7 HW7.out.1).mono ?_
  rintro e w8 ⟨a8, rfl, hO8, hB8⟩
  have HB8 : Hid (Below w.heap.size w w8 ∧ Blk w8 w.heap.size #[.bool hd, .int .i64 hm, .string hda, .slice va vm vc, .slice ua um uc] 25 ∧ RepBox M U (.bool r0) (.int .i64 r1) (.string r2) w4.heap.size w3.heap.size w4.heap.size (.slice a4 m4 c4) (.slice b4 n4 d4) w8 ∧ OwnBox n t (.bool hd) (.int .i64 hm) (.string hda) w6.heap.size W5.heap.size w6.heap.size (.slice a6 m6 c6) (.slice b6 n6 d6) w8 ∧ OwnS path W7.heap.size w8.heap.size W7.heap.size (.slice a8 path.length path.length) w8 ∧ W7.heap.size ≤ w8.heap.size) :=
    ⟨HW7.out.1.trans (hB8.mono HW7.out.1.size), HW7.out.2.1.below hB8 HW7.out.2.1.lt, HW7.out.2.2.1.below hB8, HW7.out.2.2.2.1.below hB8, ⟨hO8, Nat.le_refl _⟩, hB8.size⟩
  clear hO8 hB8
  have x0 := HB8.out.2.2.2.1.1.cell 0 _ rfl
  have x1 := HB8.out.2.2.2.1.1.cell 1 _ rfl
  have x2 := HB8.out.2.2.2.1.1.cell 2 _ rfl
  have x3 := HB8.out.2.2.2.1.1.cell 3 _ rfl
  have x4 := HB8.out.2.2.2.1.1.cell 4 _ rfl
  go_wp2_with fail
  refine (HIm.out w8 _ _ _ _ _ _ _ HB8.out.2.2.2.1.rep.2.1 HB8.out.2.2.2.1.2.2 HB8.out.2.2.2.2.1.1.strs HB8.out.2.2.2.2.1.2).mono ?_
  rintro e w9 ⟨a9, m9, c9, b9, n9, d9, rfl, hO9, hB9⟩
  have HO9 := hide hO9
  have HB9 : Hid (Below w.heap.size w w9 ∧ Blk w9 w.heap.size #[.bool hd, .int .i64 hm, .string hda, .slice va vm vc, .slice ua um uc] 25 ∧ RepBox M U (.bool r0) (.int .i64 r1) (.string r2) w4.heap.size w3.heap.size w4.heap.size (.slice a4 m4 c4) (.slice b4 n4 d4) w9 ∧ OwnBox n t (.bool hd) (.int .i64 hm) (.string hda) w6.heap.size W5.heap.size w6.heap.size (.slice a6 m6 c6) (.slice b6 n6 d6) w9 ∧ OwnS path W7.heap.size w8.heap.size W7.heap.size (.slice a8 path.length path.length) w9 ∧ w8.heap.size ≤ w9.heap.size) :=
    ⟨HB8.out.1.trans (hB9.mono HB8.out.1.size), HB8.out.2.1.below hB9 HB8.out.2.1.lt, HB8.out.2.2.1.below hB9, HB8.out.2.2.2.1.below hB9, HB8.out.2.2.2.2.1.below hB9, hB9.size⟩
  clear hO9 hB9 x0 x1 x2 x3 x4
  have x0 : ∀ o, (w9.alloc o).cell? ⟨w4.heap.size, 0, none⟩ = some (.bool r0) := fun o => (HB9.out.2.2.1.1.alloc o).cell 0 _ rfl
  have x1 : ∀ o, (w9.alloc o).cell? ⟨w4.heap.size, 1, none⟩ = some (.int .i64 r1) := fun o => (HB9.out.2.2.1.1.alloc o).cell 1 _ rfl
  have x2 : ∀ o, (w9.alloc o).cell? ⟨w4.heap.size, 2, none⟩ = some (.string r2) := fun o => (HB9.out.2.2.1.1.alloc o).cell 2 _ rfl
  have x3 : ∀ o, (w9.alloc o).cell? ⟨w4.heap.size, 3, none⟩ = some (.slice a4 m4 c4) := fun o => (HB9.out.2.2.1.1.alloc o).cell 3 _ rfl
  have x4 : ∀ o, (w9.alloc o).cell? ⟨w4.heap.size, 4, none⟩ = some (.slice b4 n4 d4) := fun o => (HB9.out.2.2.1.1.alloc o).cell 4 _ rfl
  go_wp2_with fail
  generalize hW10 : w9.alloc (Obj.cells #[.bool r0, .int .i64 r1, .string r2, .slice a9 m9 c9, .slice b9 n9 d9] 30) = W10
  have HOrd : Hid (W5.heap.size = w4.heap.size + 1 ∧ W5.heap.size ≤ w6.heap.size ∧ W7.heap.size = w6.heap.size + 1 ∧ W7.heap.size ≤ w8.heap.size ∧ w8.heap.size ≤ w9.heap.size ∧ w.heap.size < W5.heap.size) := ⟨HW5.out.2.2.2, HB6.out.2.2.2, HW7.out.2.2.2.2, HB8.out.2.2.2.2.2, HB9.out.2.2.2.2.2, HW5.out.2.1.lt⟩
  have HW10 : Hid (KS w #[.bool hd, .int .i64 hm, .string hda, .slice va vm vc, .slice ua um uc] (RepBox M U (.bool r0) (.int .i64 r1) (.string r2) w4.heap.size w3.heap.size w4.heap.size (.slice a4 m4 c4) (.slice b4 n4 d4)) (OwnBox n t (.bool hd) (.int .i64 hm) (.string hda) w6.heap.size W5.heap.size w6.heap.size (.slice a6 m6 c6) (.slice b6 n6 d6)) (OwnS path W7.heap.size w8.heap.size W7.heap.size (.slice a8 path.length path.length)) (OwnBox M U (.bool r0) (.int .i64 r1) (.string r2) w9.heap.size w8.heap.size w9.heap.size (.slice a9 m9 c9) (.slice b9 n9 d9)) W10) := by
    subst hW10
    have hb : ∀ o, Below w9.heap.size w9 (w9.alloc o) := fun o => (Below.refl _ _).alloc (Nat.le_refl _) o
    exact ⟨HB9.out.1.alloc HB9.out.1.size _, HB9.out.2.1.alloc _, HB9.out.2.2.1.below (hb _), HB9.out.2.2.2.1.below (hb _), HB9.out.2.2.2.2.1.below (hb _), ⟨Blk.new _ _ _, Own.same _ _ _ _ _ _ (sameIn_below (hb _) (Nat.le_refl _)) HO9.out, by simp⟩⟩
  clear hW10 HO9 x0 x1 x2 x3 x4 HW5 HB6 HW7 HB8 HB9 HBw1 HBw2 HBw3 HBw4 HQ1 HQ2 HQ3 HW HSz HSzS HSp HLen
  have hrb : (rb != rb) = false := by cases rb <;> rfl
  refine (HEqR.out W10 _ _ _ _ _ _ _ _ HW10.out.p10.rep.2.1 HW10.out.p10.2.2 HW10.out.p6.2.1 HW10.out.p6.2.2).mono ?_
  rintro e w11 ⟨rfl, hB11⟩
  have H11 := hide (HW10.out.next ksA hB11)
  clear hB11
  have x0 := H11.out.p8.1.cell 0 _ rfl
  have x1 := H11.out.p8.1.cell 1 _ rfl
  have x2 := H11.out.p8.1.cell 2 _ rfl
  have x3 := H11.out.p8.1.cell 3 _ rfl
  have x4 := H11.out.p8.1.cell 4 _ rfl
  have y0 := H11.out.box_.cell 0 _ rfl
  have y1 := H11.out.box_.cell 1 _ rfl
  have y2 := H11.out.box_.cell 2 _ rfl
  have y3 := H11.out.box_.cell 3 _ rfl
  have y4 := H11.out.box_.cell 4 _ rfl
  go_wp2_with fail
  go_cut [58] from 54 to 57 (fun x wx => x = .bool false ∧ Hid (Below w11.heap.size w11 wx))
  case first =>
    have HTo11 : Hid (∀ W, Below w11.heap.size w11 W → Calls Try.prog 8 #[.agg #[.bool hd, .int .i64 hm, .string hda, .slice va vm vc, .slice ua um uc]] W fun e w' => ∃ a m c a' m' c', e = .returned (.agg #[.bool hd, .int .i64 hm, .string hda, .slice a m c, .slice a' m' c']) ∧ Rep w' W.heap.size w'.heap.size n t (.slice a m c) (.slice a' m' c') ∧ Below w11.heap.size w11 w') := fun W hb =>
      (HTo.out hz' W (H11.out.below.trans (hb.mono H11.out.below.size))).mono fun e w' ⟨a, m, c, a', m', c', h1, h2, h3⟩ => ⟨a, m, c, a', m', c', h1, Own.rep _ _ _ _ _ _ h2, hb.trans (h3.mono hb.size)⟩
    have HEq11 : Hid (∀ W l2 v3 v4, Below w11.heap.size w11 W → Rep W l2 W.heap.size n t v3 v4 → Calls Try.prog 10 #[.agg #[.bool hd, .int .i64 hm, .string hda, .slice a6 m6 c6, .slice b6 n6 d6], .agg #[.bool hd, .int .i64 hm, .string hda, v3, v4]] W fun e w' => e = .returned (.bool true) ∧ Below w11.heap.size w11 w') := fun W l2 v3 v4 hb hr =>
      (HEqT.out W _ _ _ _ _ _ _ _ (H11.out.next ksA hb).p8.rep.2.1 (H11.out.next ksA hb).p8.2.2 hr (Nat.le_refl _)).mono fun e w' ⟨h1, h2⟩ => ⟨h1, hb.trans (h2.mono hb.size)⟩
    have HC11 : Hid (∀ W, Below w11.heap.size w11 W → Blk W w6.heap.size #[.bool hd, .int .i64 hm, .string hda, .slice a6 m6 c6, .slice b6 n6 d6] 30) := fun W hb => (H11.out.next ksA hb).p8.1
    go_region_with (first
      | (go_at_call 8
         refine (HTo11.out _ (by first | exact (Below.refl _ _).drew | exact Below.refl _ _)).mono ?_
         rintro e w7' ⟨a7, m7, c7, b7, n7, d7, rfl, hR7, hB7⟩
         have HR7 := hide hR7
         have HB7 := hide hB7
         have z0 := (HC11.out _ hB7).cell 0 _ rfl
         have z1 := (HC11.out _ hB7).cell 1 _ rfl
         have z2 := (HC11.out _ hB7).cell 2 _ rfl
         have z3 := (HC11.out _ hB7).cell 3 _ rfl
         have z4 := (HC11.out _ hB7).cell 4 _ rfl
         clear hR7 hB7)
      | (go_at_call 10
         refine (HEq11.out _ _ _ _ HB7.out HR7.out).mono ?_
         rintro e w8' ⟨rfl, hB8⟩
         have HB8 := hide hB8
         clear hB8))
    all_goals
      go_wp2_with fail
      go_meet
      exact ⟨rfl, HB8⟩
  case rest =>
    obtain ⟨rfl, HB12⟩ := hcut
    have H12 := hide (H11.out.next ksA HB12.out)
    clear x0 x1 x2 x3 x4 y0 y1 y2 y3 y4
    clear HB12 H11 HW10
    go_wp2_with fail
    refine (HToS.out HL.out wc H12.out.below).mono ?_
    rintro e w13 ⟨a13, rfl, hO13, hB13⟩
    have H13 := hide (H12.out.next ksA hB13)
    have HO13 := hide hO13
    clear hO13 hB13
    go_wp2_with fail
    refine (HEqS.out w13 _ _ _ _ _ _ H13.out.p9.1.strs H13.out.p9.2 HO13.out.strs (Nat.le_refl _)).mono ?_
    rintro e w14 ⟨rfl, hB14⟩
    have H14 := hide (H13.out.next ksA hB14)
    clear hB14 HO13 H12 H13
    have x0 := H14.out.p8.1.cell 0 _ rfl
    have x1 := H14.out.p8.1.cell 1 _ rfl
    have x2 := H14.out.p8.1.cell 2 _ rfl
    have x3 := H14.out.p8.1.cell 3 _ rfl
    have x4 := H14.out.p8.1.cell 4 _ rfl
    go_wp2_with fail
    refine (HMkT.out hz' w14 _ _ _ _ H14.out.p8.2.1 H14.out.p8.2.2).mono ?_
    rintro e w15 ⟨k1, rfl, hk1, hk1', hI15⟩
    have H15 : Hid (KS w #[.bool hd, .int .i64 hm, .string hda, .slice va vm vc, .slice ua um uc] (RepBox M U (.bool r0) (.int .i64 r1) (.string r2) w4.heap.size w3.heap.size w4.heap.size (.slice a4 m4 c4) (.slice b4 n4 d4)) Tru (OwnS path W7.heap.size w8.heap.size W7.heap.size (.slice a8 path.length path.length)) (OwnBox M U (.bool r0) (.int .i64 r1) (.string r2) w9.heap.size w8.heap.size w9.heap.size (.slice a9 m9 c9) (.slice b9 n9 d9)) w15) := by
      obtain ⟨o1, o2, o3, o4, o5, o6⟩ := HOrd.out
      have hs := H14.out.p10.2.2
      exact ⟨H14.out.below.trans (hI15.toBelow (by omega) H14.out.below.size), H14.out.box_.inr hI15 (by omega), H14.out.p6.belowB (hI15.toBelow (B := W5.heap.size) (Nat.le_refl _) (by omega)) (by omega) (by omega), trivial, H14.out.p9.inr hI15 (.inr (by omega)), H14.out.p10.inr hI15 (by omega) (.inr (by omega))⟩
    have HK1 : Hid (0 < k1 ∧ k1 ≤ 8388608) := ⟨hk1, hk1'⟩
    clear hI15 H14 hk1 hk1'
    clear x0 x1 x2 x3 x4
    go_wp2_with fail
    refine (HMkS.out HL.out k1 w15 _ _ _ _ HK1.out.1 HK1.out.2 H15.out.p9.1 H15.out.p9.2).mono ?_
    rintro e w16 ⟨k2, rfl, hI16⟩
    have H16 : Hid (KS w #[.bool hd, .int .i64 hm, .string hda, .slice va vm vc, .slice ua um uc] (RepBox M U (.bool r0) (.int .i64 r1) (.string r2) w4.heap.size w3.heap.size w4.heap.size (.slice a4 m4 c4) (.slice b4 n4 d4)) Tru Tru (OwnBox M U (.bool r0) (.int .i64 r1) (.string r2) w9.heap.size w8.heap.size w9.heap.size (.slice a9 m9 c9) (.slice b9 n9 d9)) w16) := by
      obtain ⟨o1, o2, o3, o4, o5, o6⟩ := HOrd.out
      have hs := H15.out.p10.2.2
      exact ⟨H15.out.below.trans (hI16.toBelow (by omega) H15.out.below.size), H15.out.box_.inr hI16 (by omega), H15.out.p6.belowB (hI16.toBelow (B := W7.heap.size) (Nat.le_refl _) (by omega)) (by omega) (by omega), trivial, trivial, H15.out.p10.inr hI16 (by omega) (.inr (by omega))⟩
    have hk2n : ¬ ((k2 : Int) < 0) := by omega
    clear hI16 H15 HK1
    have x0 := H16.out.p10.1.cell 0 _ rfl
    have x1 := H16.out.p10.1.cell 1 _ rfl
    have x2 := H16.out.p10.1.cell 2 _ rfl
    have x3 := H16.out.p10.1.cell 3 _ rfl
    have x4 := H16.out.p10.1.cell 4 _ rfl
    have y0 := H16.out.p6.1.cell 0 _ rfl
    have y1 := H16.out.p6.1.cell 1 _ rfl
    have y2 := H16.out.p6.1.cell 2 _ rfl
    have y3 := H16.out.p6.1.cell 3 _ rfl
    have y4 := H16.out.p6.1.cell 4 _ rfl
    go_wp2_with fail
    refine (HEqR.out w16 _ _ _ _ _ _ _ _ H16.out.p10.rep.2.1 H16.out.p10.2.2 H16.out.p6.2.1 H16.out.p6.2.2).mono ?_
    rintro e w17 ⟨rfl, hB17⟩
    have H17 := hide (H16.out.next (ksB fun _ _ _ _ => trivial) hB17)
    clear hB17 H16
    clear x0 x1 x2 x3 x4 y0 y1 y2 y3 y4
    have x0 := H17.out.p10.1.cell 0 _ rfl
    have x1 := H17.out.p10.1.cell 1 _ rfl
    have x2 := H17.out.p10.1.cell 2 _ rfl
    have x3 := H17.out.p10.1.cell 3 _ rfl
    have x4 := H17.out.p10.1.cell 4 _ rfl
    go_wp2_with fail
    refine (HMkR.out hz' w17 _ _ _ _ H17.out.p10.2.1 H17.out.p10.2.2).mono ?_
    rintro e w18 ⟨rfl, hR18, hI18⟩
    have H18 : Hid (KS w #[.bool hd, .int .i64 hm, .string hda, .slice va vm vc, .slice ua um uc] (RepBox M U (.bool r0) (.int .i64 r1) (.string r2) w4.heap.size w3.heap.size w4.heap.size (.slice a4 m4 c4) (.slice b4 n4 d4)) Tru Tru (RepBox M UM (.bool r0) (.int .i64 r1) (.string r2) w9.heap.size w8.heap.size w9.heap.size (.slice a9 m9 c9) (.slice b9 n9 d9)) w18) := by
      obtain ⟨o1, o2, o3, o4, o5, o6⟩ := HOrd.out
      have hs := H17.out.p10.2.2
      exact ⟨H17.out.below.trans (hI18.toBelow (by omega) H17.out.below.size), H17.out.box_.inr hI18 (by omega), H17.out.p6.belowB (hI18.toBelow (B := w8.heap.size) (Nat.le_refl _) (by omega)) (by omega) (by omega), trivial, trivial, ⟨H17.out.p10.1.inr hI18 (by omega), hR18, Nat.le_trans hs hI18.size⟩⟩
    have hm0n : ¬ ((m0 : Int) < 0) := by omega
    clear hR18 hI18 H17
    clear x0 x1 x2 x3 x4
    have x0 := H18.out.p10.1.cell 0 _ rfl
    have x1 := H18.out.p10.1.cell 1 _ rfl
    have x2 := H18.out.p10.1.cell 2 _ rfl
    have x3 := H18.out.p10.1.cell 3 _ rfl
    have x4 := H18.out.p10.1.cell 4 _ rfl
    go_wp2_with fail
    refine (HHe.out hz' w18 _ _ _ _ H18.out.p10.2.1 H18.out.p10.2.2).mono ?_
    rintro e w19 ⟨rfl, hB19⟩
    have H19 := hide (H18.out.next ksC hB19)
    clear hB19 H18
    clear x0 x1 x2 x3 x4
    have x0 := H19.out.box_.cell 0 _ rfl
    have x1 := H19.out.box_.cell 1 _ rfl
    have x2 := H19.out.box_.cell 2 _ rfl
    have x3 := H19.out.box_.cell 3 _ rfl
    have x4 := H19.out.box_.cell 4 _ rfl
    go_wp2_with fail
    refine (HTo.out hz' w19 H19.out.below).mono ?_
    rintro e w20 ⟨a20, m20, c20, b20, n20, d20, rfl, hO20, hB20⟩
    have H20 := hide (H19.out.next ksC hB20)
    have HO20 := hide hO20
    clear hO20 hB20 H19
    clear x0 x1 x2 x3 x4
    go_wp2_with fail
    refine (HToS.out HL.out w20 H20.out.below).mono ?_
    rintro e w21 ⟨a21, rfl, hO21, hB21⟩
    have H21 := hide (H20.out.next ksC hB21)
    have HO21 := hide hO21
    have HR21 : Hid (Rep w21 w19.heap.size w20.heap.size n t (.slice a20 m20 c20) (.slice b20 n20 d20) ∧ w20.heap.size ≤ w21.heap.size) := ⟨Rep.keep hB21 (Nat.le_refl _) _ _ _ _ (Own.rep _ _ _ _ _ _ HO20.out), hB21.size⟩
    clear hO21 hB21 H20 HO20
    go_wp2_with fail
    refine (HIm.out w21 _ _ _ _ _ _ _ HR21.out.1 HR21.out.2 HO21.out.strs (Nat.le_refl _)).mono ?_
    rintro e w22 ⟨a22, m22, c22, b22, n22, d22, rfl, hO22, hB22⟩
    have H22 := hide (H21.out.next ksC hB22)
    have HO22 := hide hO22
    clear hO22 hB22 H21 HR21 HO21
    have x0 : ∀ o, (w22.alloc o).cell? ⟨w4.heap.size, 0, none⟩ = some (.bool r0) := fun o => (H22.out.p6.1.alloc o).cell 0 _ rfl
    have x1 : ∀ o, (w22.alloc o).cell? ⟨w4.heap.size, 1, none⟩ = some (.int .i64 r1) := fun o => (H22.out.p6.1.alloc o).cell 1 _ rfl
    have x2 : ∀ o, (w22.alloc o).cell? ⟨w4.heap.size, 2, none⟩ = some (.string r2) := fun o => (H22.out.p6.1.alloc o).cell 2 _ rfl
    have x3 : ∀ o, (w22.alloc o).cell? ⟨w4.heap.size, 3, none⟩ = some (.slice a4 m4 c4) := fun o => (H22.out.p6.1.alloc o).cell 3 _ rfl
    have x4 : ∀ o, (w22.alloc o).cell? ⟨w4.heap.size, 4, none⟩ = some (.slice b4 n4 d4) := fun o => (H22.out.p6.1.alloc o).cell 4 _ rfl
    go_wp2_with fail
    generalize hW23 : w22.alloc (Obj.cells #[.bool r0, .int .i64 r1, .string r2, .slice a22 m22 c22, .slice b22 n22 d22] 30) = W23
    have HW23 : Hid (KS w #[.bool hd, .int .i64 hm, .string hda, .slice va vm vc, .slice ua um uc] (RepBox M U (.bool r0) (.int .i64 r1) (.string r2) w4.heap.size w3.heap.size w4.heap.size (.slice a4 m4 c4) (.slice b4 n4 d4)) Tru Tru (RepBox M UM (.bool r0) (.int .i64 r1) (.string r2) w9.heap.size w8.heap.size w9.heap.size (.slice a9 m9 c9) (.slice b9 n9 d9)) W23 ∧ Rep W23 w21.heap.size w22.heap.size M U (.slice a22 m22 c22) (.slice b22 n22 d22) ∧ w22.heap.size ≤ W23.heap.size) := by
      subst hW23
      have hb : ∀ o, Below w22.heap.size w22 (w22.alloc o) := fun o => (Below.refl _ _).alloc (Nat.le_refl _) o
      exact ⟨H22.out.next ksC (hb _), Rep.keep (hb _) (Nat.le_refl _) _ _ _ _ (Own.rep _ _ _ _ _ _ HO22.out), by simp⟩
    clear hW23 H22 HO22
    clear x0 x1 x2 x3 x4
    refine (HEqR.out W23 _ _ _ _ _ _ _ _ HW23.out.2.1 HW23.out.2.2 HW23.out.1.p6.2.1 HW23.out.1.p6.2.2).mono ?_
    rintro e w24 ⟨rfl, hB24⟩
    have H24 := hide (HW23.out.1.next ksC hB24)
    clear hB24 HW23
    have x0 := H24.out.p10.1.cell 0 _ rfl
    have x1 := H24.out.p10.1.cell 1 _ rfl
    have x2 := H24.out.p10.1.cell 2 _ rfl
    have x3 := H24.out.p10.1.cell 3 _ rfl
    have x4 := H24.out.p10.1.cell 4 _ rfl
    go_wp2_with fail
    refine (HHe.out hz' w24 _ _ _ _ H24.out.p10.2.1 H24.out.p10.2.2).mono ?_
    rintro e w25 ⟨rfl, hB25⟩
    have H25 := hide (H24.out.next ksC hB25)
    clear hB25 H24
    go_wp2_with fail
    go_ret
    exact ⟨rfl, H25.out.below⟩

end Go.Proofs.Ytnfidecbbijpfaa
