/- The law FnExactTreeCount, where the program's TreeCount keeps its contract. -/
import Derived.Test.YtnfidecbbijpfaaProg
import Derived.Test.YtnfidecbbijpfaaRoot
import Derived.Test.YtnfidecbbijpfaaSmall
import Derived.Test.YtnfidecbbijpfaaEq
namespace Go.Proofs.Ytnfidecbbijpfaa
open Go.RowKit

/-- What TreeCount gives. -/
def numT (n : Nat) (t : T n) : Nat := if okT n t then countT n t else 0

set_option maxHeartbeats 1000000 in
theorem specTreeCount_any (n : Nat) (t : T n) (nv kv : Value) (w : World) (lo hi : Nat) (hrep : Rep w lo hi n t nv kv) (hhi : hi ≤ w.heap.size) (hsm : countT n t ≤ 1048576) :
    Calls Try.prog 11 #[aggT n t nv kv] w fun e w' => e = .returned (.int .i64 (numT n t : Int)) ∧ Below w.heap.size w w' := by
  obtain ⟨va, vm, vc, ua, um, uc, rfl, rfl⟩ := hrep.slices
  have HOk : Hid (∀ W, Below w.heap.size w W → Calls Try.prog 7 #[.agg #[.bool (headT n t).1, .int .i64 (headT n t).2.1, .string (headT n t).2.2, .slice va vm vc, .slice ua um uc]] W fun e w' => e = .returned (.bool (okT n t)) ∧ Below W.heap.size W w') := fun W hW =>
    specTreeOk_any n t _ _ W lo hi (Rep.keep hW hhi _ _ _ _ hrep) (Nat.le_trans hhi hW.size) hsm
  have HCn : Hid (∀ W, Below w.heap.size w W → Calls Try.prog 23 #[.agg #[.bool (headT n t).1, .int .i64 (headT n t).2.1, .string (headT n t).2.2, .slice va vm vc, .slice ua um uc]] W fun e w' => e = .returned (.int .i64 (countT n t : Int)) ∧ Below W.heap.size W w') := fun W hW =>
    l1Count_any n t _ _ W lo hi (Rep.keep hW hhi _ _ _ _ hrep) (Nat.le_trans hhi hW.size) hsm
  have HT : Hid (okT n t = true → numT n t = countT n t) := fun h => by rw [numT, if_pos h]
  have HF : Hid (okT n t = false → numT n t = 0) := fun h => by rw [numT, if_neg (by rw [h]; decide)]
  clear hrep
  show Calls Try.prog 11 #[.agg #[.bool (headT n t).1, .int .i64 (headT n t).2.1, .string (headT n t).2.2, .slice va vm vc, .slice ua um uc]] w _
  generalize numT n t = num at HT HF ⊢
  generalize countT n t = cn at HCn HT
  generalize okT n t = ok at HOk HT HF
  generalize (headT n t).1 = hd at HOk HCn ⊢
  generalize (headT n t).2.1 = hm at HOk HCn ⊢
  generalize (headT n t).2.2 = hda at HOk HCn ⊢
  go_enter Try.func11, Try.ntmps11
  go_wp2_with fail
  generalize hW : w.alloc (Obj.cells #[.bool hd, .int .i64 hm, .string hda, .slice va vm vc, .slice ua um uc] 30) = W
  have HW : Hid (Below w.heap.size w W ∧ Blk W w.heap.size #[.bool hd, .int .i64 hm, .string hda, .slice va vm vc, .slice ua um uc] 30) := by
    subst hW
    exact ⟨(Below.refl _ _).alloc (Nat.le_refl _) _, Blk.new w _ _⟩
  clear hW
  refine (HOk.out W HW.out.1).mono ?_
  rintro e w1 ⟨rfl, hB1⟩
  have HBw1 : Hid (Below w.heap.size w w1) := HW.out.1.trans (hB1.mono HW.out.1.size)
  have HX1 : Hid (Blk w1 w.heap.size #[.bool hd, .int .i64 hm, .string hda, .slice va vm vc, .slice ua um uc] 30) := HW.out.2.below hB1 HW.out.2.lt
  clear hB1
  cases ok with
  | false =>
    have h0 := HF.out (by first | rfl | trivial)
    subst h0
    go_wp2_with fail
    go_ret
    exact ⟨rfl, HBw1.out⟩
  | true =>
    have h0 := HT.out (by first | rfl | trivial)
    subst h0
    have x0 := HX1.out.cell 0 _ rfl
    have x1 := HX1.out.cell 1 _ rfl
    have x2 := HX1.out.cell 2 _ rfl
    have x3 := HX1.out.cell 3 _ rfl
    have x4 := HX1.out.cell 4 _ rfl
    go_wp2_with fail
    refine (HCn.out w1 HBw1.out).mono ?_
    rintro e w2 ⟨rfl, hB2⟩
    have HBw2 : Hid (Below w.heap.size w w2) := HBw1.out.trans (hB2.mono HBw1.out.size)
    clear hB2
    go_wp2_with fail
    go_ret
    exact ⟨rfl, HBw2.out⟩

/-- The program's TreeCount, as it is to be walked. -/
def ImplCountC : Prop := ∀ (n : Nat) (t : T n) (nv kv : Value) (w : World) (lo hi : Nat), Rep w lo hi n t nv kv → hi ≤ w.heap.size →
  Calls Try.prog 12 #[aggT n t nv kv] w fun e w' => e = .returned (.int .i64 (numT n t : Int)) ∧ Below w.heap.size w w'

set_option maxHeartbeats 4000000 in
set_option maxRecDepth 100000 in
theorem treeCountLaw_any (hIm : ImplCountC) (n : Nat) (t : T n) (nv kv : Value) (w : World) (lo hi : Nat) (hrep : Rep w lo hi n t nv kv) (hhi : hi ≤ w.heap.size) :
    Calls Try.prog 4 #[aggT n t nv kv] w fun e w' => e = .returned (.bool true) ∧ Below w.heap.size w w' := by
  have HR := hide hrep
  clear hrep
  have HA : Hid (∀ o, Below w.heap.size w (w.alloc o)) := fun o => (Below.refl _ _).alloc (Nat.le_refl _) o
  have HSz : Hid (∀ W, Below w.heap.size w W → Calls Try.prog 6 #[.agg #[.bool (headT n t).1, .int .i64 (headT n t).2.1, .string (headT n t).2.2, nv, kv], .int .i64 1048576] W fun e w' => e = .returned (.int .i64 (szT n t 1048576)) ∧ Below W.heap.size W w') := fun W hb =>
    szTree_any n t nv kv 1048576 W lo hi (Rep.keep hb hhi _ _ _ _ HR.out) (Nat.le_trans hhi hb.size) (by omega) (by omega)
  have HTo : Hid (0 ≤ szT n t 1048576 → ∀ W, Below w.heap.size w W → Calls Try.prog 8 #[.agg #[.bool (headT n t).1, .int .i64 (headT n t).2.1, .string (headT n t).2.2, nv, kv]] W fun e w' => ∃ nv' kv', e = .returned (.agg #[.bool (headT n t).1, .int .i64 (headT n t).2.1, .string (headT n t).2.2, nv', kv']) ∧ Rep w' W.heap.size w'.heap.size n t nv' kv' ∧ Below W.heap.size W w') := fun hz W hb =>
    (toTree_any n t nv kv W lo hi (Rep.keep hb hhi _ _ _ _ HR.out) (Nat.le_trans hhi hb.size) (szT_sm n t _ (by omega) (by omega) hz)).mono fun e w' ⟨nv', kv', h1, h2, h3⟩ => ⟨nv', kv', h1, Own.rep _ _ _ _ _ _ h2, h3⟩
  have HSp : Hid (0 ≤ szT n t 1048576 → ∀ W lo' nv' kv', Rep W lo' W.heap.size n t nv' kv' → Calls Try.prog 11 #[.agg #[.bool (headT n t).1, .int .i64 (headT n t).2.1, .string (headT n t).2.2, nv', kv']] W fun e w' => e = .returned (.int .i64 (numT n t : Int)) ∧ Below W.heap.size W w') := fun hz W lo' nv' kv' hr =>
    specTreeCount_any n t nv' kv' W lo' W.heap.size hr (Nat.le_refl _) (by have := szT_count n t 1048576 (by omega) hz; omega)
  have HIm : Hid (∀ W lo' nv' kv', Rep W lo' W.heap.size n t nv' kv' → Calls Try.prog 12 #[.agg #[.bool (headT n t).1, .int .i64 (headT n t).2.1, .string (headT n t).2.2, nv', kv']] W fun e w' => e = .returned (.int .i64 (numT n t : Int)) ∧ Below W.heap.size W w') := fun W lo' nv' kv' hr =>
    hIm n t nv' kv' W lo' W.heap.size hr (Nat.le_refl _)
  have HEq : Hid (∀ W lo1 lo2 hi1 nv1 kv1 nv2 kv2, Rep W lo1 hi1 n t nv1 kv1 → hi1 ≤ W.heap.size → Rep W lo2 W.heap.size n t nv2 kv2 → Calls Try.prog 10 #[.agg #[.bool (headT n t).1, .int .i64 (headT n t).2.1, .string (headT n t).2.2, nv1, kv1], .agg #[.bool (headT n t).1, .int .i64 (headT n t).2.1, .string (headT n t).2.2, nv2, kv2]] W fun e w' => e = .returned (.bool true) ∧ Below W.heap.size W w') :=
    fun W lo1 lo2 hi1 nv1 kv1 nv2 kv2 h1 h2 h3 => eqTree_any n t nv1 kv1 nv2 kv2 W lo1 hi1 lo2 W.heap.size h1 h3 h2 (Nat.le_refl _)
  have HSl : Hid (∀ W lo' hi' nv' kv', Rep W lo' hi' n t nv' kv' → ∃ a m c a' m' c', nv' = .slice a m c ∧ kv' = .slice a' m' c') := fun _ _ _ _ _ h => h.slices
  show Calls Try.prog 4 #[.agg #[.bool (headT n t).1, .int .i64 (headT n t).2.1, .string (headT n t).2.2, nv, kv]] w _
  generalize szT n t 1048576 = sz at HSz HTo HSp
  clear hIm
  generalize (numT n t : Int) = ok at HSp HIm
  generalize (headT n t).1 = hd at HSz HTo HSp HIm HEq ⊢
  generalize (headT n t).2.1 = hm at HSz HTo HSp HIm HEq ⊢
  generalize (headT n t).2.2 = hda at HSz HTo HSp HIm HEq ⊢
  go_enter Try.func4, Try.ntmps4
  go_wp2_with fail
  generalize hW : w.alloc (Obj.cells #[.bool hd, .int .i64 hm, .string hda, nv, kv] 25) = W
  have HW : Hid (Below w.heap.size w W ∧ W.heap.size = w.heap.size + 1 ∧ Blk W w.heap.size #[.bool hd, .int .i64 hm, .string hda, nv, kv] 25) := by
    subst hW
    exact ⟨HA.out _, by simp, Blk.new w _ _⟩
  clear hW HA
  refine (HSz.out W HW.out.1).mono ?_
  rintro e w1 ⟨rfl, hB1⟩
  have HB1 : Hid (Below W.heap.size W w1) := hB1
  have HBw1 : Hid (Below w.heap.size w w1) := HW.out.1.trans (hB1.mono HW.out.1.size)
  clear hB1
  by_cases hz : sz < 0
  · go_wp2_with fail
    go_ret
    exact ⟨rfl, HBw1.out⟩
  · have q := HW.out.2.2.below HB1.out (by have := HW.out.2.1; omega)
    have x0 := q.cell 0 _ rfl
    have x1 := q.cell 1 _ rfl
    have x2 := q.cell 2 _ rfl
    have x3 := q.cell 3 _ rfl
    have x4 := q.cell 4 _ rfl
    have HQ := hide q
    clear q
    go_wp2_with fail
    refine (HTo.out (by omega) w1 HBw1.out).mono ?_
    rintro e w2 ⟨nv2, kv2, rfl, hR2, hB2⟩
    have HR2 := hide hR2
    have HB2 := hide hB2
    have HBw2 : Hid (Below w.heap.size w w2) := HBw1.out.trans (hB2.mono HBw1.out.size)
    clear hR2 hB2 x0 x1 x2 x3 x4
    have HQ2 : Hid (Blk w2 w.heap.size #[.bool hd, .int .i64 hm, .string hda, nv, kv] 25) := HQ.out.below HB2.out HQ.out.lt
    go_wp2_with fail
    refine (HSp.out (by omega) w2 _ nv2 kv2 HR2.out).mono ?_
    rintro e w3 ⟨rfl, hB3⟩
    have HQ3 : Hid (Blk w3 w.heap.size #[.bool hd, .int .i64 hm, .string hda, nv, kv] 25) := HQ2.out.below hB3 HQ2.out.lt
    have HBw3 : Hid (Below w.heap.size w w3) := HBw2.out.trans (hB3.mono HBw2.out.size)
    have x0 := HQ3.out.cell 0 _ rfl
    have x1 := HQ3.out.cell 1 _ rfl
    have x2 := HQ3.out.cell 2 _ rfl
    have x3 := HQ3.out.cell 3 _ rfl
    have x4 := HQ3.out.cell 4 _ rfl
    clear hB3
    go_wp2_with fail
    refine (HTo.out (by omega) w3 HBw3.out).mono ?_
    rintro e w4 ⟨nv4, kv4, rfl, hR4, hB4⟩
    obtain ⟨xa, xm, xc, ya, ym, yc, rfl, rfl⟩ := HSl.out _ _ _ _ _ hR4
    have HR4 := hide hR4
    have HQ4 : Hid (Blk w4 w.heap.size #[.bool hd, .int .i64 hm, .string hda, nv, kv] 25) := HQ3.out.below hB4 HQ3.out.lt
    have HBw4 : Hid (Below w.heap.size w w4) := HBw3.out.trans (hB4.mono HBw3.out.size)
    clear hR4 hB4 x0 x1 x2 x3 x4
    go_wp2_with fail
    generalize hW5 : w4.alloc (Obj.cells #[.bool hd, .int .i64 hm, .string hda, .slice xa xm xc, .slice ya ym yc] 30) = W5
    have HW5 : Hid (Below w.heap.size w W5 ∧ Rep W5 w3.heap.size W5.heap.size n t (.slice xa xm xc) (.slice ya ym yc) ∧ Blk W5 w.heap.size #[.bool hd, .int .i64 hm, .string hda, nv, kv] 25 ∧ Blk W5 w4.heap.size #[.bool hd, .int .i64 hm, .string hda, .slice xa xm xc, .slice ya ym yc] 30) := by
      subst hW5
      have hb : Below w4.heap.size w4 (w4.alloc (Obj.cells #[.bool hd, .int .i64 hm, .string hda, .slice xa xm xc, .slice ya ym yc] 30)) := (Below.refl _ _).alloc (Nat.le_refl _) _
      exact ⟨HBw4.out.trans (hb.mono HBw4.out.size), Rep.wide (Nat.le_refl _) (by simp) _ _ _ _ (Rep.keep hb (Nat.le_refl _) _ _ _ _ HR4.out), HQ4.out.alloc _, Blk.new _ _ _⟩
    clear hW5
    refine (HIm.out W5 _ _ _ HW5.out.2.1).mono ?_
    rintro e w6 ⟨rfl, hB6⟩
    have HBw6 : Hid (Below w.heap.size w w6) := HW5.out.1.trans (hB6.mono HW5.out.1.size)
    have HR6 : Hid (Rep w6 w3.heap.size W5.heap.size n t (.slice xa xm xc) (.slice ya ym yc)) := Rep.keep hB6 (Nat.le_refl _) _ _ _ _ HW5.out.2.1
    have HZ6 : Hid (W5.heap.size ≤ w6.heap.size) := hB6.size
    have HQ6 : Hid (Blk w6 w.heap.size #[.bool hd, .int .i64 hm, .string hda, nv, kv] 25) := HW5.out.2.2.1.below hB6 HW5.out.2.2.1.lt
    have HP6 : Hid (Blk w6 w4.heap.size #[.bool hd, .int .i64 hm, .string hda, .slice xa xm xc, .slice ya ym yc] 30) := HW5.out.2.2.2.below hB6 HW5.out.2.2.2.lt
    clear hB6
    have x0 := HQ6.out.cell 0 _ rfl
    have x1 := HQ6.out.cell 1 _ rfl
    have x2 := HQ6.out.cell 2 _ rfl
    have x3 := HQ6.out.cell 3 _ rfl
    have x4 := HQ6.out.cell 4 _ rfl
    have y0 := HP6.out.cell 0 _ rfl
    have y1 := HP6.out.cell 1 _ rfl
    have y2 := HP6.out.cell 2 _ rfl
    have y3 := HP6.out.cell 3 _ rfl
    have y4 := HP6.out.cell 4 _ rfl
    have HTo6 : Hid (∀ W, Below w6.heap.size w6 W → Calls Try.prog 8 #[.agg #[.bool hd, .int .i64 hm, .string hda, nv, kv]] W fun e w' => ∃ nv' kv', e = .returned (.agg #[.bool hd, .int .i64 hm, .string hda, nv', kv']) ∧ Rep w' W.heap.size w'.heap.size n t nv' kv' ∧ Below w6.heap.size w6 w') := fun W hb =>
      (HTo.out (by omega) W (HBw6.out.trans (hb.mono HBw6.out.size))).mono fun e w' ⟨nv', kv', h1, h2, h3⟩ => ⟨nv', kv', h1, h2, hb.trans (h3.mono hb.size)⟩
    have HEq6 : Hid (∀ W lo2 nv2 kv2, Below w6.heap.size w6 W → Rep W lo2 W.heap.size n t nv2 kv2 → Calls Try.prog 10 #[.agg #[.bool hd, .int .i64 hm, .string hda, .slice xa xm xc, .slice ya ym yc], .agg #[.bool hd, .int .i64 hm, .string hda, nv2, kv2]] W fun e w' => e = .returned (.bool true) ∧ Below w.heap.size w w') := fun W lo2 nv2 kv2 hb hr =>
      (HEq.out W _ lo2 W5.heap.size _ _ nv2 kv2 (Rep.keep hb HZ6.out _ _ _ _ HR6.out) (Nat.le_trans HZ6.out hb.size) hr).mono fun e w' ⟨h1, h2⟩ => ⟨h1, (HBw6.out.trans (hb.mono HBw6.out.size)).trans (h2.mono (Nat.le_trans HBw6.out.size hb.size))⟩
    have hnn : (ok != ok) = false := by simp
    clear HTo HEq HSp HIm HSz HW5 HW HSl HR4 HQ4 HQ3 HQ2 HQ HR2
    go_wp2_with fail
    go_region_with (first
      | (go_at_call 8
         refine (HTo6.out _ (by first | exact (Below.refl _ _).drew | exact Below.refl _ _)).mono ?_
         rintro e w7 ⟨nv7, kv7, rfl, hR7, hB7⟩
         have HR7 := hide hR7
         have HB7 := hide hB7
         have HP7 : Hid (Blk w7 w4.heap.size #[.bool hd, .int .i64 hm, .string hda, .slice xa xm xc, .slice ya ym yc] 30) := HP6.out.below hB7 HP6.out.lt
         have z0 := HP7.out.cell 0 _ rfl
         have z1 := HP7.out.cell 1 _ rfl
         have z2 := HP7.out.cell 2 _ rfl
         have z3 := HP7.out.cell 3 _ rfl
         have z4 := HP7.out.cell 4 _ rfl
         clear hR7 hB7)
      | (go_at_call 10
         refine (HEq6.out _ _ _ _ HB7.out HR7.out).mono ?_
         rintro e w8 ⟨rfl, hB8⟩
         have HB8 := hide hB8
         clear hB8))
    all_goals
      go_wp2_with fail
      go_ret
      exact ⟨rfl, HB8.out⟩

end Go.Proofs.Ytnfidecbbijpfaa
