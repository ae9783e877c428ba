/- The law FnExactTrailOf: it returns true, whatever it is called with. -/
import Derived.Test.YtifbbbgcdklaaaaTOA
import Derived.Test.YtifbbbgcdklaaaaBoxes
import Derived.Test.YtifbbbgcdklaaaaEq
import Derived.Test.YtifbbbgcdklaaaaSmall
namespace Go.Proofs.Ytifbbbgcdklaaaa
open Go.RowKit

def MksIn (l : List Mk) (lo hi : Nat) (v : Value) (W : World) : Prop := MksAt W lo hi v l ∧ hi ≤ W.heap.size
theorem MksIn.below {l : List Mk} {lo hi : Nat} {v : Value} {W W' : World} (h : MksIn l lo hi v W) (hb : Below W.heap.size W W') : MksIn l lo hi v W' := ⟨h.1.keep hb h.2, Nat.le_trans h.2 hb.size⟩
theorem MksIn.belowB {l : List Mk} {lo hi : Nat} {v : Value} {W W' : World} (h : MksIn l lo hi v W) {X : Nat} (hb : Below X W W') (h2 : hi ≤ X) : MksIn l lo hi v W' := ⟨h.1.keep hb h2, Nat.le_trans h.2 hb.size⟩
def OwnMs (l : List Mk) (lo hi g : Nat) (bs : Nat → Nat) (v : Value) (W : World) : Prop := OwnMks W lo hi g bs v l ∧ hi ≤ W.heap.size
theorem OwnMs.below {l : List Mk} {lo hi g : Nat} {bs : Nat → Nat} {v : Value} {W W' : World} (h : OwnMs l lo hi g bs v W) (hb : Below W.heap.size W W') : OwnMs l lo hi g bs v W' := ⟨h.1.same (sameIn_below hb h.2), Nat.le_trans h.2 hb.size⟩
theorem OwnMs.inr {l : List Mk} {lo hi g : Nat} {bs : Nat → Nat} {v : Value} {W W' : World} (h : OwnMs l lo hi g bs v W) {x y : Nat} (hb : InR x y W W') (hd : hi ≤ x ∨ y ≤ lo) : OwnMs l lo hi g bs v W' := ⟨h.1.same (hb.sameIn (by omega) h.2), Nat.le_trans h.2 hb.size⟩
/-- A call in a box, its paths in blocks of their own. -/
def OwnCB (c : Cl) (B b1 b2 : Nat) (pa ta : Option Addr) (W : World) : Prop := Blk W B #[.int .i64 c.kind, .slice pa c.path.length c.path.length, .slice ta c.to.length c.to.length, .int .i64 c.num, .string c.data] 36 ∧ OwnC c b1 b2 pa ta W
theorem OwnCB.below {c : Cl} {B b1 b2 : Nat} {pa ta : Option Addr} {W W' : World} (h : OwnCB c B b1 b2 pa ta W) (hb : Below W.heap.size W W') : OwnCB c B b1 b2 pa ta W' := ⟨h.1.below hb h.1.lt, h.2.below hb⟩
theorem OwnCB.inr {c : Cl} {B b1 b2 : Nat} {pa ta : Option Addr} {W W' : World} (h : OwnCB c B b1 b2 pa ta W) {x y : Nat} (hb : InR x y W W') (hB : ¬ (x ≤ B ∧ B < y)) (h1 : ¬ (x ≤ b1 ∧ b1 < y)) (h2 : ¬ (x ≤ b2 ∧ b2 < y)) : OwnCB c B b1 b2 pa ta W' :=
  ⟨h.1.inr hb hB, ownStrs_at h.2.1 (hb.block _ (by have := h.2.2.2; omega) h1), ownStrs_at h.2.2.1 (hb.block _ h.2.2.2.2 h2), h.2.2.2.1, Nat.lt_of_lt_of_le h.2.2.2.2 hb.size⟩
theorem OwnC.clOk {c : Cl} {b1 b2 : Nat} {pa ta : Option Addr} {W : World} (h : OwnC c b1 b2 pa ta W) (hd : c.data.size ≤ maxLen) : ClOk W b1 (b2 + 1) c pa c.path.length ta c.to.length :=
  ⟨h.1.strs.wide (Nat.le_refl _) (by have := h.2.2.1; omega), h.2.1.strs.wide (by have := h.2.2.1; omega) (Nat.le_refl _), hd⟩

structure KT (w : World) (A C : Array Value) (P6 P8 P9 P10 : World → Prop) (W : World) : Prop where
  below : Below w.heap.size w W
  boxt : Blk W w.heap.size A 25
  boxc : Blk W (w.heap.size + 1) C 27
  p6 : P6 W
  p8 : P8 W
  p9 : P9 W
  p10 : P10 W
theorem KT.next {w : World} {A C : Array Value} {P6 P8 P9 P10 : World → Prop} {W W' : World} (h : KT w A C P6 P8 P9 P10 W) (hc : Clo P6 ∧ Clo P8 ∧ Clo P9 ∧ Clo P10) (hb : Below W.heap.size W W') : KT w A C P6 P8 P9 P10 W' :=
  ⟨h.below.trans (hb.mono h.below.size), h.boxt.below hb h.boxt.lt, h.boxc.below hb h.boxc.lt, hc.1 _ _ h.p6 hb, hc.2.1 _ _ h.p8 hb, hc.2.2.1 _ _ h.p9 hb, hc.2.2.2 _ _ h.p10 hb⟩
theorem cTru : Clo Tru := fun _ _ _ _ => trivial
theorem cM6 {l : List Mk} {lo hi : Nat} {v : Value} : Clo (MksIn l lo hi v) := fun _ _ => MksIn.below
theorem cB8 {m : Nat} {u : T m} {x0 x1 x2 : Value} {B lo hi : Nat} {nv kv : Value} : Clo (OwnBox m u x0 x1 x2 B lo hi nv kv) := fun _ _ => OwnBox.below
theorem cC9 {c : Cl} {B b1 b2 : Nat} {pa ta : Option Addr} : Clo (OwnCB c B b1 b2 pa ta) := fun _ _ => OwnCB.below
theorem cO10 {l : List Mk} {lo hi g : Nat} {bs : Nat → Nat} {v : Value} : Clo (OwnMs l lo hi g bs v) := fun _ _ => OwnMs.below

theorem szC_len (c : Cl) (L : Int) (h0 : 0 ≤ L) (h : 0 ≤ szC c L) : (c.path.length : Int) ≤ L ∧ (c.to.length : Int) ≤ L := by
  unfold szC at h
  split at h
  · omega
  · rename_i h1
    split at h
    · omega
    · rename_i h2
      have g1 := szStrs_len c.path L (by omega)
      have g2 := szStrs_len c.to (szStrs c.path L) (by omega)
      have g3 := szStrs_le c.path L h0
      omega

set_option maxHeartbeats 8000000 in
set_option maxRecDepth 100000 in
theorem trailOfLaw_at (n : Nat) (t : T n) (nv kv : Value) (c : Cl) (pa : Option Addr) (pc : Nat) (ta : Option Addr) (tc : Nat) (w : World) (lo hi lo' hi' : Nat) (hrep : Rep w lo hi n t nv kv) (hc : ClOk w lo' hi' c pa pc ta tc) (hhi : hi ≤ w.heap.size) (hhi' : hi' ≤ w.heap.size)
    (hsp : ∀ W l1 h1 l2 h2 v1 v2 pa' ta', countT n t ≤ 1048576 → c.path.length ≤ 1048576 → c.to.length ≤ 1048576 → Rep W l1 h1 n t v1 v2 → h1 ≤ W.heap.size → ClOk W l2 h2 c pa' c.path.length ta' c.to.length → h2 ≤ W.heap.size → Calls Try.prog 6 #[aggT n t v1 v2, aggC c pa' c.path.length ta' c.to.length] W fun e w' => ∃ v, e = .returned v ∧ MksAt w' W.heap.size w'.heap.size v (trailT n t c) ∧ Below W.heap.size W w') :
    Calls Try.prog 3 #[aggT n t nv kv, aggC c pa pc ta tc] w fun e w' => e = .returned (.bool true) ∧ Below w.heap.size w w' := by
  have HDs : Hid (c.data.size ≤ maxLen) := hc.2.2
  have HSz : Hid (∀ W, Below w.heap.size w W → Calls Try.prog 4 #[.agg #[.bool (headT n t).1, .int .i64 (headT n t).2.1, .string (headT n t).2.2, nv, kv], .int .i64 1048576] W fun e w' => e = .returned (.int .i64 (szT n t 1048576)) ∧ Below W.heap.size W w') := fun W hb =>
    szTree_any n t nv kv 1048576 W lo hi (Rep.keep hb hhi _ _ _ _ hrep) (Nat.le_trans hhi hb.size) (by omega) (by omega)
  have HSzC : Hid (0 ≤ szT n t 1048576 → ∀ W, Below w.heap.size w W → Calls Try.prog 5 #[.agg #[.int .i64 c.kind, .slice pa c.path.length pc, .slice ta c.to.length tc, .int .i64 c.num, .string c.data], .int .i64 (szT n t 1048576)] W fun e w' => e = .returned (.int .i64 (szC c (szT n t 1048576))) ∧ Below W.heap.size W w') := fun h0 W hb =>
    szCall_any c pa pc ta tc _ W lo' hi' (hc.keep hb hhi') (Nat.le_trans hhi' hb.size) h0 (by have := szT_le n t 1048576 (by omega); omega)
  have HLen : Hid (0 ≤ szT n t 1048576 → 0 ≤ szC c (szT n t 1048576) → c.path.length ≤ 1048576 ∧ c.to.length ≤ 1048576) := fun h0 h1 => by
    have h2 := szC_len c _ h0 h1
    have h3 := szT_le n t 1048576 (by omega)
    omega
  have HTo : Hid (0 ≤ szT n t 1048576 → ∀ W, Below w.heap.size w W → Calls Try.prog 7 #[.agg #[.bool (headT n t).1, .int .i64 (headT n t).2.1, .string (headT n t).2.2, nv, kv]] W fun e w' => ∃ a m c a' m' c', e = .returned (.agg #[.bool (headT n t).1, .int .i64 (headT n t).2.1, .string (headT n t).2.2, .slice a m c, .slice a' m' c']) ∧ Own w' n W.heap.size w'.heap.size t (.slice a m c) (.slice a' m' c') ∧ Below W.heap.size W w') := fun hz W hb =>
    (toTree_any n t nv kv W lo hi (Rep.keep hb hhi _ _ _ _ hrep) (Nat.le_trans hhi hb.size) (szT_sm n t _ (by omega) (by omega) hz)).mono fun e w' ⟨nv', kv', h1, h2, h3⟩ => by
      obtain ⟨a, m, c, a', m', c', rfl, rfl⟩ := (Own.rep _ _ _ _ _ _ h2).slices
      exact ⟨a, m, c, a', m', c', h1, h2, h3⟩
  have HToC : Hid (c.path.length ≤ 1048576 → c.to.length ≤ 1048576 → ∀ W, Below w.heap.size w W → Calls Try.prog 8 #[.agg #[.int .i64 c.kind, .slice pa c.path.length pc, .slice ta c.to.length tc, .int .i64 c.num, .string c.data]] W fun e w' => ∃ pa' ta' b1 b2, e = .returned (.agg #[.int .i64 c.kind, .slice pa' c.path.length c.path.length, .slice ta' c.to.length c.to.length, .int .i64 c.num, .string c.data]) ∧ W.heap.size ≤ b1 ∧ OwnC c b1 b2 pa' ta' w' ∧ Below W.heap.size W w') := fun h1 h2 W hb =>
    toCall_any c pa pc ta tc W lo' hi' (hc.keep hb hhi') (Nat.le_trans hhi' hb.size) h1 h2
  have HSp : Hid (0 ≤ szT n t 1048576 → c.path.length ≤ 1048576 → c.to.length ≤ 1048576 → ∀ W l1 h1 l2 h2 v1 v2 pa' ta', Rep W l1 h1 n t v1 v2 → h1 ≤ W.heap.size → ClOk W l2 h2 c pa' c.path.length ta' c.to.length → h2 ≤ W.heap.size → Calls Try.prog 6 #[.agg #[.bool (headT n t).1, .int .i64 (headT n t).2.1, .string (headT n t).2.2, v1, v2], .agg #[.int .i64 c.kind, .slice pa' c.path.length c.path.length, .slice ta' c.to.length c.to.length, .int .i64 c.num, .string c.data]] W fun e w' => ∃ v, e = .returned v ∧ MksAt w' W.heap.size w'.heap.size v (trailT n t c) ∧ Below W.heap.size W w') := fun hz g1 g2 W l1 h1 l2 h2 v1 v2 pa' ta' r1 r2 r3 r4 =>
    hsp W l1 h1 l2 h2 v1 v2 pa' ta' (by have := szT_count n t 1048576 (by omega) hz; omega) g1 g2 r1 r2 r3 r4
  have HIm : Hid (c.path.length ≤ 1048576 → c.to.length ≤ 1048576 → ∀ W l1 h1 l2 h2 v1 v2 pa' ta', Rep W l1 h1 n t v1 v2 → h1 ≤ W.heap.size → ClOk W l2 h2 c pa' c.path.length ta' c.to.length → h2 ≤ W.heap.size → Calls Try.prog 9 #[.agg #[.bool (headT n t).1, .int .i64 (headT n t).2.1, .string (headT n t).2.2, v1, v2], .agg #[.int .i64 c.kind, .slice pa' c.path.length c.path.length, .slice ta' c.to.length c.to.length, .int .i64 c.num, .string c.data]] W fun e w' => ∃ v g bs, e = .returned v ∧ OwnMks w' W.heap.size w'.heap.size g bs v (trailT n t c) ∧ Below W.heap.size W w') := fun g1 g2 W l1 h1 l2 h2 v1 v2 pa' ta' r1 r2 r3 r4 =>
    implTrailOf_any n t v1 v2 c pa' ta' W l1 h1 l2 h2 r1 r3 r2 r4 g1 g2
  have HEqT : Hid (∀ W l1 h1 l2 h2 v1 v2 v3 v4, Rep W l1 h1 n t v1 v2 → h1 ≤ W.heap.size → Rep W l2 h2 n t v3 v4 → h2 ≤ W.heap.size → Calls Try.prog 11 #[.agg #[.bool (headT n t).1, .int .i64 (headT n t).2.1, .string (headT n t).2.2, v1, v2], .agg #[.bool (headT n t).1, .int .i64 (headT n t).2.1, .string (headT n t).2.2, v3, v4]] W fun e w' => e = .returned (.bool true) ∧ Below W.heap.size W w') := fun W l1 h1 l2 h2 v1 v2 v3 v4 g1 g2 g3 g4 =>
    eqTree_any n t v1 v2 v3 v4 W l1 h1 l2 h2 g1 g3 g2 g4
  have HEqC : Hid (∀ W l1 h1 l2 h2 p1 t1 p2 t2, ClOk W l1 h1 c p1 c.path.length t1 c.to.length → h1 ≤ W.heap.size → ClOk W l2 h2 c p2 c.path.length t2 c.to.length → h2 ≤ W.heap.size → Calls Try.prog 12 #[.agg #[.int .i64 c.kind, .slice p1 c.path.length c.path.length, .slice t1 c.to.length c.to.length, .int .i64 c.num, .string c.data], .agg #[.int .i64 c.kind, .slice p2 c.path.length c.path.length, .slice t2 c.to.length c.to.length, .int .i64 c.num, .string c.data]] W fun e w' => e = .returned (.bool true) ∧ Below W.heap.size W w') := fun W l1 h1 l2 h2 p1 t1 p2 t2 g1 g2 g3 g4 =>
    eqCall_any c p1 p2 _ _ t1 t2 _ _ W l1 h1 l2 h2 g1 g3 g2 g4
  have HEqM : Hid (∀ W l1 h1 l2 h2 v1 v2, MksAt W l1 h1 v1 (trailT n t c) → h1 ≤ W.heap.size → MksAt W l2 h2 v2 (trailT n t c) → h2 ≤ W.heap.size → Calls Try.prog 10 #[v1, v2] W fun e w' => e = .returned (.bool true) ∧ Below W.heap.size W w') := fun W l1 h1 l2 h2 v1 v2 g1 g2 g3 g4 =>
    eqMarkS_any _ v1 v2 W l1 h1 l2 h2 g1 g3 g2 g4
  have HMkT : Hid (0 ≤ szT n t 1048576 → ∀ W l h v1 v2, Own W n l h t v1 v2 → h ≤ W.heap.size → Calls Try.prog 13 #[.agg #[.bool (headT n t).1, .int .i64 (headT n t).2.1, .string (headT n t).2.2, v1, v2], .int .i64 1] W fun e w' => ∃ k1 : Nat, e = .returned (.int .i64 (k1 : Int)) ∧ 0 < k1 ∧ k1 ≤ 8388608 ∧ InR l h W w') := fun hz W l h v1 v2 g1 g2 => by
    have h1 := szT_cnt n t 1048576 (by omega) hz
    exact (markTree_any n t v1 v2 1 W l h g1 g2 (by omega) (by omega)).mono fun e w' ⟨h1, _, h3⟩ => ⟨_, h1, by omega, by omega, h3⟩
  have HMkC : Hid (c.path.length ≤ 1048576 → c.to.length ≤ 1048576 → ∀ (k1 : Nat) W b1 b2 p1 t1, 0 < k1 → k1 ≤ 8388608 → OwnC c b1 b2 p1 t1 W → Calls Try.prog 14 #[.agg #[.int .i64 c.kind, .slice p1 c.path.length c.path.length, .slice t1 c.to.length c.to.length, .int .i64 c.num, .string c.data], .int .i64 (k1 : Int)] W fun e w' => ∃ k2 : Nat, e = .returned (.int .i64 (k2 : Int)) ∧ InR b1 (b2 + 1) W w') := fun g1 g2 k1 W b1 b2 p1 t1 g3 g4 g5 =>
    (markCall_any c b1 b2 p1 t1 k1 W g5 g3 (by omega)).mono fun e w' ⟨h1, h2⟩ => ⟨_, h1, h2⟩
  have HMkM : Hid (c.path.length ≤ 1048576 → c.to.length ≤ 1048576 → ∀ W l h g bs v, OwnMks W l h g bs v (trailT n t c) → h ≤ W.heap.size → Calls Try.prog 15 #[v, .int .i64 1] W fun e w' => e = .returned (.int .i64 ((1 + ((trailT n t c).map cM).sum : Nat) : Int)) ∧ MksAt w' l h v (markK gM cM (trailT n t c) 1) ∧ InR l h W w') := fun g1 g2 W l h g bs v g3 g4 =>
    (markMarkS_any _ v g 1 bs W l h g3 g4 (by omega) (by have := trail_cnt n t c g1 g2; omega)).mono fun e w' ⟨h1, h2, h3⟩ => ⟨h1, h2.mks, h3⟩
  have HHe : Hid (c.path.length ≤ 1048576 → c.to.length ≤ 1048576 → ∀ W l h v, MksAt W l h v (markK gM cM (trailT n t c) 1) → h ≤ W.heap.size → Calls Try.prog 16 #[v, .int .i64 1] W fun e w' => e = .returned (.int .i64 ((1 + ((trailT n t c).map cM).sum : Nat) : Int)) ∧ Below W.heap.size W w') := fun g1 g2 W l h v g3 g4 =>
    heldMarkS_any _ v 1 W l h g3 g4 (by omega) (by have := trail_cnt n t c g1 g2; omega)
  obtain ⟨va, vm, vc, ua, um, uc, rfl, rfl⟩ := hrep.slices
  clear hrep hc hsp
  show Calls Try.prog 3 #[.agg #[.bool (headT n t).1, .int .i64 (headT n t).2.1, .string (headT n t).2.2, .slice va vm vc, .slice ua um uc], .agg #[.int .i64 c.kind, .slice pa c.path.length pc, .slice ta c.to.length tc, .int .i64 c.num, .string c.data]] w _
  generalize hm0 : 1 + ((trailT n t c).map cM).sum = m0 at HMkM HHe
  clear hm0
  generalize markK gM cM (trailT n t c) 1 = ms at HMkM HHe
  generalize trailT n t c = rs at HSp HIm HEqM HMkM HHe
  generalize szC c (szT n t 1048576) = sz2 at HSzC HLen
  generalize szT n t 1048576 = sz at HSz HSzC HLen HTo HSp HMkT
  generalize (headT n t).1 = hd at HSz HTo HSp HIm HEqT HMkT ⊢
  generalize (headT n t).2.1 = hm at HSz HTo HSp HIm HEqT HMkT ⊢
  generalize (headT n t).2.2 = hda at HSz HTo HSp HIm HEqT HMkT ⊢
  go_enter Try.func3, Try.ntmps3
  go_wp2_with fail
  generalize hW : (w.alloc (Obj.cells #[.bool hd, .int .i64 hm, .string hda, .slice va vm vc, .slice ua um uc] 25)).alloc (Obj.cells #[.int .i64 c.kind, .slice pa c.path.length pc, .slice ta c.to.length tc, .int .i64 c.num, .string c.data] 27) = W
  have H0 : Hid (KT w #[.bool hd, .int .i64 hm, .string hda, .slice va vm vc, .slice ua um uc] #[.int .i64 c.kind, .slice pa c.path.length pc, .slice ta c.to.length tc, .int .i64 c.num, .string c.data] Tru Tru Tru Tru W) := by
    subst hW
    exact ⟨((Below.refl _ _).alloc (Nat.le_refl _) _).alloc (by simp) _, (Blk.new _ _ _).alloc _, blkAt (by simp), trivial, trivial, trivial, trivial⟩
  clear hW
  refine (HSz.out W H0.out.below).mono ?_
  rintro e w1 ⟨rfl, hB1⟩
  have H1 := hide (H0.out.next ⟨cTru, cTru, cTru, cTru⟩ hB1)
  clear hB1 H0
  by_cases hz : sz < 0
  · go_wp2_with fail
    go_ret
    exact ⟨rfl, H1.out.below⟩
  have y0 := H1.out.boxc.cell 0 _ rfl
  have y1 := H1.out.boxc.cell 1 _ rfl
  have y2 := H1.out.boxc.cell 2 _ rfl
  have y3 := H1.out.boxc.cell 3 _ rfl
  have y4 := H1.out.boxc.cell 4 _ rfl
  go_wp2_with fail
  refine (HSzC.out (by omega) w1 H1.out.below).mono ?_
  rintro e w2 ⟨rfl, hB2⟩
  have H2 := hide (H1.out.next ⟨cTru, cTru, cTru, cTru⟩ hB2)
  clear hB2 H1 y0 y1 y2 y3 y4
  by_cases hz2 : sz2 < 0
  · go_wp2_with fail
    go_ret
    exact ⟨rfl, H2.out.below⟩
  have hz' : 0 ≤ sz := by omega
  obtain ⟨hL1, hL2⟩ := HLen.out hz' (by omega)
  have HL1 := hide hL1
  have HL2 := hide hL2
  clear hL1 hL2 HLen HSz HSzC
  have x0 := H2.out.boxt.cell 0 _ rfl
  have x1 := H2.out.boxt.cell 1 _ rfl
  have x2 := H2.out.boxt.cell 2 _ rfl
  have x3 := H2.out.boxt.cell 3 _ rfl
  have x4 := H2.out.boxt.cell 4 _ rfl
  have y0 := H2.out.boxc.cell 0 _ rfl
  have y1 := H2.out.boxc.cell 1 _ rfl
  have y2 := H2.out.boxc.cell 2 _ rfl
  have y3 := H2.out.boxc.cell 3 _ rfl
  have y4 := H2.out.boxc.cell 4 _ rfl
  go_wp2_with fail
  go_cut [6] from 24 to 28 (fun x wx => ∃ l4, Hid (KT w #[.bool hd, .int .i64 hm, .string hda, .slice va vm vc, .slice ua um uc] #[.int .i64 c.kind, .slice pa c.path.length pc, .slice ta c.to.length tc, .int .i64 c.num, .string c.data] (MksIn rs l4 wx.heap.size x) Tru Tru Tru wx))
  case first =>
    have HT2 : Hid (∀ W, Below w2.heap.size w2 W → Calls Try.prog 7 #[.agg #[.bool hd, .int .i64 hm, .string hda, .slice va vm vc, .slice ua um uc]] W fun e w' => ∃ a m c a' m' c', e = .returned (.agg #[.bool hd, .int .i64 hm, .string hda, .slice a m c, .slice a' m' c']) ∧ Rep w' W.heap.size w'.heap.size n t (.slice a m c) (.slice a' m' c') ∧ Below w2.heap.size w2 w') := fun W hb =>
      (HTo.out hz' W (H2.out.below.trans (hb.mono H2.out.below.size))).mono fun e w' ⟨a, m, c, a', m', c', h1, h2, h3⟩ => ⟨a, m, c, a', m', c', h1, Own.rep _ _ _ _ _ _ h2, hb.trans (h3.mono hb.size)⟩
    have HC2 : Hid (∀ W, Below w2.heap.size w2 W → Calls Try.prog 8 #[.agg #[.int .i64 c.kind, .slice pa c.path.length pc, .slice ta c.to.length tc, .int .i64 c.num, .string c.data]] W fun e w' => ∃ pa' ta' b1 b2, e = .returned (.agg #[.int .i64 c.kind, .slice pa' c.path.length c.path.length, .slice ta' c.to.length c.to.length, .int .i64 c.num, .string c.data]) ∧ OwnC c b1 b2 pa' ta' w' ∧ Below W.heap.size W w') := fun W hb =>
      (HToC.out HL1.out HL2.out W (H2.out.below.trans (hb.mono H2.out.below.size))).mono fun e w' ⟨p1, t1, b1, b2, h1, _, h3, h4⟩ => ⟨p1, t1, b1, b2, h1, h3, h4⟩
    have HZ2 : Hid (∀ W, Below w2.heap.size w2 W → KT w #[.bool hd, .int .i64 hm, .string hda, .slice va vm vc, .slice ua um uc] #[.int .i64 c.kind, .slice pa c.path.length pc, .slice ta c.to.length tc, .int .i64 c.num, .string c.data] Tru Tru Tru Tru W) := fun W hb => H2.out.next ⟨cTru, cTru, cTru, cTru⟩ hb
    go_region_with (first
      | (go_at_call 7
         refine (HT2.out _ (by first | exact (Below.refl _ _).drew | exact Below.refl _ _)).mono ?_
         rintro e w3 ⟨a3, m3, c3, b3, n3, d3, rfl, hR3, hB3⟩
         have HR3 := hide hR3
         have HB3 := hide hB3
         have HK3 := hide (HZ2.out _ hB3)
         have z0 := HK3.out.boxc.cell 0 _ rfl
         have z1 := HK3.out.boxc.cell 1 _ rfl
         have z2 := HK3.out.boxc.cell 2 _ rfl
         have z3 := HK3.out.boxc.cell 3 _ rfl
         have z4 := HK3.out.boxc.cell 4 _ rfl
         clear hR3 hB3)
      | (go_at_call 8
         refine (HC2.out _ HB3.out).mono ?_
         rintro e w4 ⟨p4, t4, b41, b42, rfl, hO4, hB4⟩
         have HR4 := hide (Rep.keep hB4 (Nat.le_refl _) _ _ _ _ HR3.out)
         have HZ4 := hide hB4.size
         have HC4 := hide (hO4.clOk HDs.out)
         have HC4z : Hid (b42 + 1 ≤ w4.heap.size) := hO4.2.2.2
         have HK4 := hide (HK3.out.next ⟨cTru, cTru, cTru, cTru⟩ hB4)
         clear hO4 hB4)
      | (go_at_call 6
         refine (HSp.out hz' HL1.out HL2.out _ _ _ _ _ _ _ _ _ HR4.out HZ4.out HC4.out HC4z.out).mono ?_
         rintro e w5 ⟨v5, rfl, hM5, hB5⟩
         have HK5 := hide (HK4.out.next ⟨cTru, cTru, cTru, cTru⟩ hB5)
         have HF : Hid (KT w #[.bool hd, .int .i64 hm, .string hda, .slice va vm vc, .slice ua um uc] #[.int .i64 c.kind, .slice pa c.path.length pc, .slice ta c.to.length tc, .int .i64 c.num, .string c.data] (MksIn rs w4.heap.size w5.heap.size v5) Tru Tru Tru w5) := ⟨HK5.out.below, HK5.out.boxt, HK5.out.boxc, ⟨hM5, Nat.le_refl _⟩, trivial, trivial, trivial⟩
         clear hM5 hB5))
    all_goals
      go_wp2_with fail
      go_meet
      exact ⟨_, HF⟩
  case rest =>
    obtain ⟨l4, H5⟩ := hcut
    rename World => w5
    clear H2 x0 x1 x2 x3 x4 y0 y1 y2 y3 y4 HSp
    have x0 := H5.out.boxt.cell 0 _ rfl
    have x1 := H5.out.boxt.cell 1 _ rfl
    have x2 := H5.out.boxt.cell 2 _ rfl
    have x3 := H5.out.boxt.cell 3 _ rfl
    have x4 := H5.out.boxt.cell 4 _ rfl
    go_wp2_with fail
    refine (HTo.out hz' w5 H5.out.below).mono ?_
    rintro e w6 ⟨a6, m6, c6, b6, n6, d6, rfl, hO6, hB6⟩
    have HO6 := hide hO6
    have HZ6 := hide hB6.size
    have H6 := hide (H5.out.next ⟨cM6, cTru, cTru, cTru⟩ hB6)
    clear hO6 hB6 x0 x1 x2 x3 x4
    have HA6 : Hid (∀ o, Below w6.heap.size w6 (w6.alloc o)) := fun o => (Below.refl _ _).alloc (Nat.le_refl _) o
    have z0 := fun o => (H6.out.boxc.alloc o).cell 0 _ rfl
    have z1 := fun o => (H6.out.boxc.alloc o).cell 1 _ rfl
    have z2 := fun o => (H6.out.boxc.alloc o).cell 2 _ rfl
    have z3 := fun o => (H6.out.boxc.alloc o).cell 3 _ rfl
    have z4 := fun o => (H6.out.boxc.alloc o).cell 4 _ rfl
    go_wp2_with fail
    generalize hW7 : w6.alloc (Obj.cells #[.bool hd, .int .i64 hm, .string hda, .slice a6 m6 c6, .slice b6 n6 d6] 34) = W7
    have H7 : Hid (KT w #[.bool hd, .int .i64 hm, .string hda, .slice va vm vc, .slice ua um uc] #[.int .i64 c.kind, .slice pa c.path.length pc, .slice ta c.to.length tc, .int .i64 c.num, .string c.data] (MksIn rs l4 w5.heap.size u6) (OwnBox n t (.bool hd) (.int .i64 hm) (.string hda) w6.heap.size w5.heap.size w6.heap.size (.slice a6 m6 c6) (.slice b6 n6 d6)) Tru Tru W7 ∧ W7.heap.size = w6.heap.size + 1) := by
      subst hW7
      have hk := H6.out.next ⟨cM6, cTru, cTru, cTru⟩ (HA6.out (Obj.cells #[.bool hd, .int .i64 hm, .string hda, .slice a6 m6 c6, .slice b6 n6 d6] 34))
      exact ⟨⟨hk.below, hk.boxt, hk.boxc, hk.p6, ⟨Blk.new _ _ _, Own.same _ _ _ _ _ _ (sameIn_below (HA6.out _) (Nat.le_refl _)) HO6.out, by simp⟩, trivial, trivial⟩, by simp⟩
    clear hW7 HO6 H6 z0 z1 z2 z3 z4 HA6
    refine (HToC.out HL1.out HL2.out W7 H7.out.1.below).mono ?_
    rintro e w8 ⟨p8, t8, b81, b82, rfl, hge, hO8, hB8⟩
    have HO8 := hide hO8
    have HGe := hide hge
    have HZ8 := hide hB8.size
    have H8 := hide (H7.out.1.next ⟨cM6, cB8, cTru, cTru⟩ hB8)
    clear hO8 hB8 hge
    have HA8 : Hid (∀ o, Below w8.heap.size w8 (w8.alloc o)) := fun o => (Below.refl _ _).alloc (Nat.le_refl _) o
    have z0 := fun o => (H8.out.p8.1.alloc o).cell 0 _ rfl
    have z1 := fun o => (H8.out.p8.1.alloc o).cell 1 _ rfl
    have z2 := fun o => (H8.out.p8.1.alloc o).cell 2 _ rfl
    have z3 := fun o => (H8.out.p8.1.alloc o).cell 3 _ rfl
    have z4 := fun o => (H8.out.p8.1.alloc o).cell 4 _ rfl
    go_wp2_with fail
    generalize hW9 : w8.alloc (Obj.cells #[.int .i64 c.kind, .slice p8 c.path.length c.path.length, .slice t8 c.to.length c.to.length, .int .i64 c.num, .string c.data] 36) = W9
    have H9 : Hid (KT w #[.bool hd, .int .i64 hm, .string hda, .slice va vm vc, .slice ua um uc] #[.int .i64 c.kind, .slice pa c.path.length pc, .slice ta c.to.length tc, .int .i64 c.num, .string c.data] (MksIn rs l4 w5.heap.size u6) (OwnBox n t (.bool hd) (.int .i64 hm) (.string hda) w6.heap.size w5.heap.size w6.heap.size (.slice a6 m6 c6) (.slice b6 n6 d6)) (OwnCB c w8.heap.size b81 b82 p8 t8) Tru W9 ∧ W9.heap.size = w8.heap.size + 1) := by
      subst hW9
      have hk := H8.out.next ⟨cM6, cB8, cTru, cTru⟩ (HA8.out (Obj.cells #[.int .i64 c.kind, .slice p8 c.path.length c.path.length, .slice t8 c.to.length c.to.length, .int .i64 c.num, .string c.data] 36))
      exact ⟨⟨hk.below, hk.boxt, hk.boxc, hk.p6, hk.p8, ⟨Blk.new _ _ _, HO8.out.below (HA8.out _)⟩, trivial⟩, by simp⟩
    have HOrd : Hid (w5.heap.size ≤ w6.heap.size ∧ W7.heap.size = w6.heap.size + 1 ∧ W7.heap.size ≤ b81 ∧ b81 < b82 ∧ b82 < w8.heap.size ∧ W9.heap.size = w8.heap.size + 1 ∧ w.heap.size + 1 < w5.heap.size) := ⟨HZ6.out, H7.out.2, HGe.out, HO8.out.2.2.1, HO8.out.2.2.2, H9.out.2, H5.out.boxc.lt⟩
    clear hW9 HO8 H8 z0 z1 z2 z3 z4 HA8 H7 HZ6 HZ8 HGe H5
    refine (HIm.out HL1.out HL2.out W9 _ _ _ _ _ _ _ _ H9.out.1.p8.rep.2.1 H9.out.1.p8.2.2 (H9.out.1.p9.2.clOk HDs.out) H9.out.1.p9.2.2.2.2).mono ?_
    rintro e w10 ⟨v10, g10, bs10, rfl, hO10, hB10⟩
    have H10 : Hid (KT w #[.bool hd, .int .i64 hm, .string hda, .slice va vm vc, .slice ua um uc] #[.int .i64 c.kind, .slice pa c.path.length pc, .slice ta c.to.length tc, .int .i64 c.num, .string c.data] (MksIn rs l4 w5.heap.size u6) (OwnBox n t (.bool hd) (.int .i64 hm) (.string hda) w6.heap.size w5.heap.size w6.heap.size (.slice a6 m6 c6) (.slice b6 n6 d6)) (OwnCB c w8.heap.size b81 b82 p8 t8) (OwnMs rs W9.heap.size w10.heap.size g10 bs10 v10) w10) := by
      have hk := H9.out.1.next ⟨cM6, cB8, cC9, cTru⟩ hB10
      exact ⟨hk.below, hk.boxt, hk.boxc, hk.p6, hk.p8, hk.p9, ⟨hO10, Nat.le_refl _⟩⟩
    clear hO10 hB10 H9
    go_wp2_with fail
    refine (HEqM.out w10 _ _ _ _ _ _ H10.out.p10.1.mks H10.out.p10.2 H10.out.p6.1 H10.out.p6.2).mono ?_
    rintro e w11 ⟨rfl, hB11⟩
    have H11 := hide (H10.out.next ⟨cM6, cB8, cC9, cO10⟩ hB11)
    clear hB11 H10
    have x0 := H11.out.boxt.cell 0 _ rfl
    have x1 := H11.out.boxt.cell 1 _ rfl
    have x2 := H11.out.boxt.cell 2 _ rfl
    have x3 := H11.out.boxt.cell 3 _ rfl
    have x4 := H11.out.boxt.cell 4 _ rfl
    have y0 := H11.out.p8.1.cell 0 _ rfl
    have y1 := H11.out.p8.1.cell 1 _ rfl
    have y2 := H11.out.p8.1.cell 2 _ rfl
    have y3 := H11.out.p8.1.cell 3 _ rfl
    have y4 := H11.out.p8.1.cell 4 _ rfl
    go_wp2_with fail
    go_cut [44] from 40 to 43 (fun x wx => x = .bool false ∧ Hid (Below w11.heap.size w11 wx))
    case first =>
      have HTo11 : Hid (∀ W, Below w11.heap.size w11 W → Calls Try.prog 7 #[.agg #[.bool hd, .int .i64 hm, .string hda, .slice va vm vc, .slice ua um uc]] W fun e w' => ∃ a m c a' m' c', e = .returned (.agg #[.bool hd, .int .i64 hm, .string hda, .slice a m c, .slice a' m' c']) ∧ Rep w' W.heap.size w'.heap.size n t (.slice a m c) (.slice a' m' c') ∧ Below w11.heap.size w11 w') := fun W hb =>
        (HTo.out hz' W (H11.out.below.trans (hb.mono H11.out.below.size))).mono fun e w' ⟨a, m, c, a', m', c', h1, h2, h3⟩ => ⟨a, m, c, a', m', c', h1, Own.rep _ _ _ _ _ _ h2, hb.trans (h3.mono hb.size)⟩
      have HEq11 : Hid (∀ W l2 v3 v4, Below w11.heap.size w11 W → Rep W l2 W.heap.size n t v3 v4 → Calls Try.prog 11 #[.agg #[.bool hd, .int .i64 hm, .string hda, .slice a6 m6 c6, .slice b6 n6 d6], .agg #[.bool hd, .int .i64 hm, .string hda, v3, v4]] W fun e w' => e = .returned (.bool true) ∧ Below w11.heap.size w11 w') := fun W l2 v3 v4 hb hr =>
        (HEqT.out W _ _ _ _ _ _ _ _ (H11.out.next ⟨cM6, cB8, cC9, cO10⟩ hb).p8.rep.2.1 (H11.out.next ⟨cM6, cB8, cC9, cO10⟩ hb).p8.2.2 hr (Nat.le_refl _)).mono fun e w' ⟨h1, h2⟩ => ⟨h1, hb.trans (h2.mono hb.size)⟩
      have HC11 : Hid (∀ W, Below w11.heap.size w11 W → Blk W w6.heap.size #[.bool hd, .int .i64 hm, .string hda, .slice a6 m6 c6, .slice b6 n6 d6] 34) := fun W hb => (H11.out.next ⟨cM6, cB8, cC9, cO10⟩ hb).p8.1
      go_region_with (first
        | (go_at_call 7
           refine (HTo11.out _ (by first | exact (Below.refl _ _).drew | exact Below.refl _ _)).mono ?_
           rintro e w7' ⟨a7, m7, c7, b7, n7, d7, rfl, hR7, hB7⟩
           have HR7 := hide hR7
           have HB7 := hide hB7
           have z0 := (HC11.out _ hB7).cell 0 _ rfl
           have z1 := (HC11.out _ hB7).cell 1 _ rfl
           have z2 := (HC11.out _ hB7).cell 2 _ rfl
           have z3 := (HC11.out _ hB7).cell 3 _ rfl
           have z4 := (HC11.out _ hB7).cell 4 _ rfl
           clear hR7 hB7)
        | (go_at_call 11
           refine (HEq11.out _ _ _ _ HB7.out HR7.out).mono ?_
           rintro e w8' ⟨rfl, hB8⟩
           have HB8 := hide hB8
           clear hB8))
      all_goals
        go_wp2_with fail
        go_meet
        exact ⟨rfl, HB8⟩
    case rest =>
      obtain ⟨rfl, HB12⟩ := hcut
      rename World => w12
      have H12 := hide (H11.out.next ⟨cM6, cB8, cC9, cO10⟩ HB12.out)
      clear x0 x1 x2 x3 x4 y0 y1 y2 y3 y4 HB12 H11 HEqT
      have x0 := H12.out.boxc.cell 0 _ rfl
      have x1 := H12.out.boxc.cell 1 _ rfl
      have x2 := H12.out.boxc.cell 2 _ rfl
      have x3 := H12.out.boxc.cell 3 _ rfl
      have x4 := H12.out.boxc.cell 4 _ rfl
      have y0 := H12.out.p9.1.cell 0 _ rfl
      have y1 := H12.out.p9.1.cell 1 _ rfl
      have y2 := H12.out.p9.1.cell 2 _ rfl
      have y3 := H12.out.p9.1.cell 3 _ rfl
      have y4 := H12.out.p9.1.cell 4 _ rfl
      go_wp2_with fail
      go_cut [49] from 45 to 48 (fun x wx => x = .bool false ∧ Hid (Below w12.heap.size w12 wx))
      case first =>
        have HTo12 : Hid (∀ W, Below w12.heap.size w12 W → Calls Try.prog 8 #[.agg #[.int .i64 c.kind, .slice pa c.path.length pc, .slice ta c.to.length tc, .int .i64 c.num, .string c.data]] W fun e w' => ∃ pa' ta' b1 b2, e = .returned (.agg #[.int .i64 c.kind, .slice pa' c.path.length c.path.length, .slice ta' c.to.length c.to.length, .int .i64 c.num, .string c.data]) ∧ OwnC c b1 b2 pa' ta' w' ∧ Below w12.heap.size w12 w') := fun W hb =>
          (HToC.out HL1.out HL2.out W (H12.out.below.trans (hb.mono H12.out.below.size))).mono fun e w' ⟨p1, t1, b1, b2, h1, _, h3, h4⟩ => ⟨p1, t1, b1, b2, h1, h3, hb.trans (h4.mono hb.size)⟩
        have HEq12 : Hid (∀ W b1 b2 p1 t1, Below w12.heap.size w12 W → OwnC c b1 b2 p1 t1 W → Calls Try.prog 12 #[.agg #[.int .i64 c.kind, .slice p8 c.path.length c.path.length, .slice t8 c.to.length c.to.length, .int .i64 c.num, .string c.data], .agg #[.int .i64 c.kind, .slice p1 c.path.length c.path.length, .slice t1 c.to.length c.to.length, .int .i64 c.num, .string c.data]] W fun e w' => e = .returned (.bool true) ∧ Below w12.heap.size w12 w') := fun W b1 b2 p1 t1 hb hr => by
          have hk := (H12.out.next ⟨cM6, cB8, cC9, cO10⟩ hb).p9.2
          exact (HEqC.out W _ _ _ _ _ _ _ _ (hk.clOk HDs.out) hk.2.2.2 (hr.clOk HDs.out) hr.2.2.2).mono fun e w' ⟨h1, h2⟩ => ⟨h1, hb.trans (h2.mono hb.size)⟩
        have HC12 : Hid (∀ W, Below w12.heap.size w12 W → Blk W w8.heap.size #[.int .i64 c.kind, .slice p8 c.path.length c.path.length, .slice t8 c.to.length c.to.length, .int .i64 c.num, .string c.data] 36) := fun W hb => (H12.out.next ⟨cM6, cB8, cC9, cO10⟩ hb).p9.1
        go_region_with (first
          | (go_at_call 8
             refine (HTo12.out _ (by first | exact (Below.refl _ _).drew | exact Below.refl _ _)).mono ?_
             rintro e w7' ⟨p7, t7, b71, b72, rfl, hR7, hB7⟩
             have HR7 := hide hR7
             have HB7 := hide hB7
             have z0 := (HC12.out _ hB7).cell 0 _ rfl
             have z1 := (HC12.out _ hB7).cell 1 _ rfl
             have z2 := (HC12.out _ hB7).cell 2 _ rfl
             have z3 := (HC12.out _ hB7).cell 3 _ rfl
             have z4 := (HC12.out _ hB7).cell 4 _ rfl
             clear hR7 hB7)
          | (go_at_call 12
             refine (HEq12.out _ _ _ _ _ HB7.out HR7.out).mono ?_
             rintro e w8' ⟨rfl, hB8⟩
             have HB8 := hide hB8
             clear hB8))
        all_goals
          go_wp2_with fail
          go_meet
          exact ⟨rfl, HB8⟩
      case rest =>
        obtain ⟨rfl, HB13⟩ := hcut
        rename World => w13
        have H13 := hide (H12.out.next ⟨cM6, cB8, cC9, cO10⟩ HB13.out)
        clear x0 x1 x2 x3 x4 y0 y1 y2 y3 y4 HB13 H12 HEqC
        have y0 := H13.out.p8.1.cell 0 _ rfl
        have y1 := H13.out.p8.1.cell 1 _ rfl
        have y2 := H13.out.p8.1.cell 2 _ rfl
        have y3 := H13.out.p8.1.cell 3 _ rfl
        have y4 := H13.out.p8.1.cell 4 _ rfl
        go_wp2_with fail
        refine (HMkT.out hz' w13 _ _ _ _ H13.out.p8.2.1 H13.out.p8.2.2).mono ?_
        rintro e w15 ⟨k1, rfl, hk1, hk1', hI15⟩
        have H15 : Hid (KT w #[.bool hd, .int .i64 hm, .string hda, .slice va vm vc, .slice ua um uc] #[.int .i64 c.kind, .slice pa c.path.length pc, .slice ta c.to.length tc, .int .i64 c.num, .string c.data] (MksIn rs l4 w5.heap.size u6) Tru (OwnCB c w8.heap.size b81 b82 p8 t8) (OwnMs rs W9.heap.size w10.heap.size g10 bs10 v10) w15) := by
          obtain ⟨o1, o2, o3, o4, o5, o6, o7⟩ := HOrd.out
          have hs := H13.out.p8.2.2
          exact ⟨H13.out.below.trans (hI15.toBelow (by omega) H13.out.below.size), H13.out.boxt.inr hI15 (by omega), H13.out.boxc.inr hI15 (by omega), H13.out.p6.belowB (hI15.toBelow (B := w5.heap.size) (Nat.le_refl _) H13.out.p6.2) (Nat.le_refl _), trivial, H13.out.p9.inr hI15 (by omega) (by omega) (by omega), H13.out.p10.inr hI15 (.inr (by omega))⟩
        have HK1 : Hid (0 < k1 ∧ k1 ≤ 8388608) := ⟨hk1, hk1'⟩
        clear hI15 H13 hk1 hk1' y0 y1 y2 y3 y4 HMkT
        have y0 := H15.out.p9.1.cell 0 _ rfl
        have y1 := H15.out.p9.1.cell 1 _ rfl
        have y2 := H15.out.p9.1.cell 2 _ rfl
        have y3 := H15.out.p9.1.cell 3 _ rfl
        have y4 := H15.out.p9.1.cell 4 _ rfl
        go_wp2_with fail
        refine (HMkC.out HL1.out HL2.out k1 w15 _ _ _ _ HK1.out.1 HK1.out.2 H15.out.p9.2).mono ?_
        rintro e w16 ⟨k2, rfl, hI16⟩
        have H16 : Hid (KT w #[.bool hd, .int .i64 hm, .string hda, .slice va vm vc, .slice ua um uc] #[.int .i64 c.kind, .slice pa c.path.length pc, .slice ta c.to.length tc, .int .i64 c.num, .string c.data] (MksIn rs l4 w5.heap.size u6) Tru Tru (OwnMs rs W9.heap.size w10.heap.size g10 bs10 v10) w16) := by
          obtain ⟨o1, o2, o3, o4, o5, o6, o7⟩ := HOrd.out
          have hs := H15.out.p6.2
          have hlt := H15.out.p9.1.lt
          exact ⟨H15.out.below.trans (hI16.toBelow (by omega) H15.out.below.size), H15.out.boxt.inr hI16 (by omega), H15.out.boxc.inr hI16 (by omega), H15.out.p6.belowB (hI16.toBelow (B := w5.heap.size) (by omega) hs) (Nat.le_refl _), trivial, trivial, H15.out.p10.inr hI16 (.inr (by omega))⟩
        have hk2n : ¬ ((k2 : Int) < 0) := by omega
        clear hI16 H15 HK1 y0 y1 y2 y3 y4 HMkC
        go_wp2_with fail
        refine (HEqM.out w16 _ _ _ _ _ _ H16.out.p10.1.mks H16.out.p10.2 H16.out.p6.1 H16.out.p6.2).mono ?_
        rintro e w17 ⟨rfl, hB17⟩
        have H17 := hide (H16.out.next ⟨cM6, cTru, cTru, cO10⟩ hB17)
        clear hB17 H16
        go_wp2_with fail
        refine (HMkM.out HL1.out HL2.out w17 _ _ _ _ _ H17.out.p10.1 H17.out.p10.2).mono ?_
        rintro e w18 ⟨rfl, hR18, hI18⟩
        have H18 : Hid (KT w #[.bool hd, .int .i64 hm, .string hda, .slice va vm vc, .slice ua um uc] #[.int .i64 c.kind, .slice pa c.path.length pc, .slice ta c.to.length tc, .int .i64 c.num, .string c.data] (MksIn rs l4 w5.heap.size u6) Tru Tru (MksIn ms W9.heap.size w10.heap.size v10) w18) := by
          obtain ⟨o1, o2, o3, o4, o5, o6, o7⟩ := HOrd.out
          have hs := H17.out.p10.2
          have hs6 := H17.out.p6.2
          exact ⟨H17.out.below.trans (hI18.toBelow (by omega) H17.out.below.size), H17.out.boxt.inr hI18 (by omega), H17.out.boxc.inr hI18 (by omega), H17.out.p6.belowB (hI18.toBelow (B := w5.heap.size) (by omega) hs6) (Nat.le_refl _), trivial, trivial, ⟨hR18, Nat.le_trans hs hI18.size⟩⟩
        have hm0n : ¬ ((m0 : Int) < 0) := by omega
        have hm0e : ((m0 : Int) != (m0 : Int)) = false := by simp
        clear hR18 hI18 H17 HMkM
        go_wp2_with fail
        refine (HHe.out HL1.out HL2.out w18 _ _ _ H18.out.p10.1 H18.out.p10.2).mono ?_
        rintro e w19 ⟨rfl, hB19⟩
        have H19 := hide (H18.out.next ⟨cM6, cTru, cTru, cM6⟩ hB19)
        clear hB19 H18
        have x0 := H19.out.boxt.cell 0 _ rfl
        have x1 := H19.out.boxt.cell 1 _ rfl
        have x2 := H19.out.boxt.cell 2 _ rfl
        have x3 := H19.out.boxt.cell 3 _ rfl
        have x4 := H19.out.boxt.cell 4 _ rfl
        have y0 := H19.out.boxc.cell 0 _ rfl
        have y1 := H19.out.boxc.cell 1 _ rfl
        have y2 := H19.out.boxc.cell 2 _ rfl
        have y3 := H19.out.boxc.cell 3 _ rfl
        have y4 := H19.out.boxc.cell 4 _ rfl
        go_wp2_with fail
        go_cut [13] from 75 to 79 (fun x wx => ∃ l4', Hid (KT w #[.bool hd, .int .i64 hm, .string hda, .slice va vm vc, .slice ua um uc] #[.int .i64 c.kind, .slice pa c.path.length pc, .slice ta c.to.length tc, .int .i64 c.num, .string c.data] (MksIn rs l4 w5.heap.size u6) Tru (MksIn rs l4' wx.heap.size x) (MksIn ms W9.heap.size w10.heap.size v10) wx))
        case first =>
          have HT2 : Hid (∀ W, Below w19.heap.size w19 W → Calls Try.prog 7 #[.agg #[.bool hd, .int .i64 hm, .string hda, .slice va vm vc, .slice ua um uc]] W fun e w' => ∃ a m c a' m' c', e = .returned (.agg #[.bool hd, .int .i64 hm, .string hda, .slice a m c, .slice a' m' c']) ∧ Rep w' W.heap.size w'.heap.size n t (.slice a m c) (.slice a' m' c') ∧ Below w19.heap.size w19 w') := fun W hb =>
            (HTo.out hz' W (H19.out.below.trans (hb.mono H19.out.below.size))).mono fun e w' ⟨a, m, c, a', m', c', h1, h2, h3⟩ => ⟨a, m, c, a', m', c', h1, Own.rep _ _ _ _ _ _ h2, hb.trans (h3.mono hb.size)⟩
          have HC2 : Hid (∀ W, Below w19.heap.size w19 W → Calls Try.prog 8 #[.agg #[.int .i64 c.kind, .slice pa c.path.length pc, .slice ta c.to.length tc, .int .i64 c.num, .string c.data]] W fun e w' => ∃ pa' ta' b1 b2, e = .returned (.agg #[.int .i64 c.kind, .slice pa' c.path.length c.path.length, .slice ta' c.to.length c.to.length, .int .i64 c.num, .string c.data]) ∧ OwnC c b1 b2 pa' ta' w' ∧ Below W.heap.size W w') := fun W hb =>
            (HToC.out HL1.out HL2.out W (H19.out.below.trans (hb.mono H19.out.below.size))).mono fun e w' ⟨p1, t1, b1, b2, h1, _, h3, h4⟩ => ⟨p1, t1, b1, b2, h1, h3, h4⟩
          have HZ2 : Hid (∀ W, Below w19.heap.size w19 W → KT w #[.bool hd, .int .i64 hm, .string hda, .slice va vm vc, .slice ua um uc] #[.int .i64 c.kind, .slice pa c.path.length pc, .slice ta c.to.length tc, .int .i64 c.num, .string c.data] (MksIn rs l4 w5.heap.size u6) Tru Tru (MksIn ms W9.heap.size w10.heap.size v10) W) := fun W hb => H19.out.next ⟨cM6, cTru, cTru, cM6⟩ hb
          go_region_with (first
            | (go_at_call 7
               refine (HT2.out _ (by first | exact (Below.refl _ _).drew | exact Below.refl _ _)).mono ?_
               rintro e w3 ⟨a3, m3, c3, b3, n3, d3, rfl, hR3, hB3⟩
               have HR3 := hide hR3
               have HB3 := hide hB3
               have HK3 := hide (HZ2.out _ hB3)
               have z0 := HK3.out.boxc.cell 0 _ rfl
               have z1 := HK3.out.boxc.cell 1 _ rfl
               have z2 := HK3.out.boxc.cell 2 _ rfl
               have z3 := HK3.out.boxc.cell 3 _ rfl
               have z4 := HK3.out.boxc.cell 4 _ rfl
               clear hR3 hB3)
            | (go_at_call 8
               refine (HC2.out _ HB3.out).mono ?_
               rintro e w4 ⟨p4, t4, b41, b42, rfl, hO4, hB4⟩
               have HR4 := hide (Rep.keep hB4 (Nat.le_refl _) _ _ _ _ HR3.out)
               have HZ4 := hide hB4.size
               have HC4 := hide (hO4.clOk HDs.out)
               have HC4z : Hid (b42 + 1 ≤ w4.heap.size) := hO4.2.2.2
               have HK4 := hide (HK3.out.next ⟨cM6, cTru, cTru, cM6⟩ hB4)
               clear hO4 hB4)
            | (go_at_call 9
               refine (HIm.out HL1.out HL2.out _ _ _ _ _ _ _ _ _ HR4.out HZ4.out HC4.out HC4z.out).mono ?_
               rintro e w20 ⟨v20, g20, bs20, rfl, hM5, hB5⟩
               have HK5 := hide (HK4.out.next ⟨cM6, cTru, cTru, cM6⟩ hB5)
               have HF : Hid (KT w #[.bool hd, .int .i64 hm, .string hda, .slice va vm vc, .slice ua um uc] #[.int .i64 c.kind, .slice pa c.path.length pc, .slice ta c.to.length tc, .int .i64 c.num, .string c.data] (MksIn rs l4 w5.heap.size u6) Tru (MksIn rs w4.heap.size w20.heap.size v20) (MksIn ms W9.heap.size w10.heap.size v10) w20) := ⟨HK5.out.below, HK5.out.boxt, HK5.out.boxc, HK5.out.p6, trivial, ⟨hM5.mks, Nat.le_refl _⟩, HK5.out.p10⟩
               clear hM5 hB5))
          all_goals
            go_wp2_with fail
            go_meet
            exact ⟨_, HF⟩
        case rest =>
          obtain ⟨l20, H20⟩ := hcut
          rename World => w20
          clear H19 x0 x1 x2 x3 x4 y0 y1 y2 y3 y4 HIm HTo HToC
          go_wp2_with fail
          refine (HEqM.out w20 _ _ _ _ _ _ H20.out.p9.1 H20.out.p9.2 H20.out.p6.1 H20.out.p6.2).mono ?_
          rintro e w21 ⟨rfl, hB21⟩
          have H21 := hide (H20.out.next ⟨cM6, cTru, cM6, cM6⟩ hB21)
          clear hB21 H20
          go_wp2_with fail
          refine (HHe.out HL1.out HL2.out w21 _ _ _ H21.out.p10.1 H21.out.p10.2).mono ?_
          rintro e w22 ⟨rfl, hB22⟩
          have H22 := hide (H21.out.next ⟨cM6, cTru, cM6, cM6⟩ hB22)
          clear hB22 H21
          go_wp2_with fail
          go_ret
          exact ⟨rfl, H22.out.below⟩

end Go.Proofs.Ytifbbbgcdklaaaa
