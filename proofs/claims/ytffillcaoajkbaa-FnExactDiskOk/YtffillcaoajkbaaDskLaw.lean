/- The law FnExactDiskOk: it returns true, whatever disk it is called with. -/
import Derived.Test.YtffillcaoajkbaaDsk
import Derived.Deep.QuietTactic
import Derived.BigQuiet
import Derived.Deep.RegionWith
namespace Go.Proofs.Ytffillcaoajkbaa
open Go.RowKit

set_option maxHeartbeats 4000000 in
set_option maxRecDepth 100000 in
theorem diskOkLaw_any (l : List ByteArray) (v : Value) (w : World) (lo hi : Nat) (hv : StrsAt w lo hi v l) (hhi : hi ≤ w.heap.size) :
    Calls Try.prog 3 #[.agg #[v]] w fun e w' => e = .returned (.bool true) ∧ Below w.heap.size w w' := by
  have HSz : Hid (∀ W, Below w.heap.size w W → Calls Try.prog 4 #[.agg #[v], .int .i64 1048576] W fun e w' => e = .returned (.int .i64 (szStrs l 1048576)) ∧ Below W.heap.size W w') := fun W hb => szDisk_any l v 1048576 W lo hi (hv.keep hb hhi) (Nat.le_trans hhi hb.size) (by omega) (by omega)
  have HTo : Hid (0 ≤ szStrs l 1048576 → ∀ W, Below w.heap.size w W → Calls Try.prog 6 #[.agg #[v]] W fun e w' => ∃ a c, e = .returned (.agg #[.slice a l.length c]) ∧ StrsAt w' W.heap.size w'.heap.size (.slice a l.length c) l ∧ Below W.heap.size W w') := fun hz W hb =>
    (toDisk_any l v W lo hi (hv.keep hb hhi) (Nat.le_trans hhi hb.size) (by have := szStrs_fits l _ hz; omega)).mono fun e w' ⟨a, c, h1, ⟨_, h2⟩, h3⟩ => ⟨a, c, h1, h2.strs, h3⟩
  have HSp : Hid (∀ W lo' a c, StrsAt W lo' W.heap.size (.slice a l.length c) l → Calls Try.prog 5 #[.agg #[.slice a l.length c]] W fun e w' => e = .returned (.bool (diskB l)) ∧ Below W.heap.size W w') := fun W lo' a c h => specDiskOk_any l _ W lo' W.heap.size h (Nat.le_refl _)
  have HIm : Hid (∀ W lo' a c, StrsAt W lo' W.heap.size (.slice a l.length c) l → Calls Try.prog 7 #[.agg #[.slice a l.length c]] W fun e w' => e = .returned (.bool (diskB l)) ∧ Below W.heap.size W w') := fun W lo' a c h => implDiskOk_any l _ W lo' W.heap.size h (Nat.le_refl _)
  have HEq : Hid (∀ W lo1 hi1 lo2 a c a2 c2, StrsAt W lo1 hi1 (.slice a l.length c) l → hi1 ≤ W.heap.size → StrsAt W lo2 W.heap.size (.slice a2 l.length c2) l → Calls Try.prog 8 #[.agg #[.slice a l.length c], .agg #[.slice a2 l.length c2]] W fun e w' => e = .returned (.bool true) ∧ Below W.heap.size W w') :=
    fun W lo1 hi1 lo2 a c a2 c2 h1 h2 h3 => eqDisk_any l _ _ W lo1 hi1 lo2 W.heap.size h1 h3 h2 (Nat.le_refl _)
  have HA : Hid (∀ o, Below w.heap.size w (w.alloc o)) := fun o => (Below.refl _ _).alloc (Nat.le_refl _) o
  obtain ⟨va, vc, rfl, hl, _⟩ := hv
  unfold maxLen at hl
  generalize szStrs l 1048576 = sz at HSz HTo
  generalize diskB l = ok at HSp HIm
  go_enter Try.func3, Try.ntmps3
  go_wp2_with fail
  generalize hW : w.alloc (Obj.cells #[.slice va l.length vc] 24) = W
  have HW : Hid (Below w.heap.size w W ∧ W.heap.size = w.heap.size + 1 ∧ Blk W w.heap.size #[.slice va l.length vc] 24) := by
    subst hW
    exact ⟨HA.out _, by simp, Blk.new w _ _⟩
  clear hW HA
  refine (HSz.out W HW.out.1).mono ?_
  rintro e w1 ⟨rfl, hB1⟩
  have HB1 : Hid (Below w.heap.size w w1) := HW.out.1.trans (hB1.mono HW.out.1.size)
  have HQ1 : Hid (Blk w1 w.heap.size #[.slice va l.length vc] 24) := HW.out.2.2.below hB1 (by have := HW.out.2.1; omega)
  clear hB1 HSz HW
  by_cases hz : sz < 0
  · go_wp2_with fail
    go_ret
    exact ⟨rfl, HB1.out⟩
  · have HTo := hide (HTo.out (by omega))
    have x0 := HQ1.out.cell 0 _ rfl
    go_wp2_with fail
    refine (HTo.out w1 HB1.out).mono ?_
    rintro e w2 ⟨a2, c2, rfl, hR2, hB2⟩
    have HR2 := hide hR2
    have HB2 : Hid (Below w.heap.size w w2) := HB1.out.trans (hB2.mono HB1.out.size)
    have HQ2 : Hid (Blk w2 w.heap.size #[.slice va l.length vc] 24) := HQ1.out.below hB2 HQ1.out.lt
    clear hR2 hB2 x0 HQ1
    go_wp2_with fail
    refine (HSp.out w2 _ a2 _ HR2.out).mono ?_
    rintro e w3 ⟨rfl, hB3⟩
    have HB3 : Hid (Below w.heap.size w w3) := HB2.out.trans (hB3.mono HB2.out.size)
    have HQ3 : Hid (Blk w3 w.heap.size #[.slice va l.length vc] 24) := HQ2.out.below hB3 HQ2.out.lt
    clear hB3 HR2 HQ2
    have x0 := HQ3.out.cell 0 _ rfl
    go_wp2_with fail
    refine (HTo.out w3 HB3.out).mono ?_
    rintro e w4 ⟨a4, c4, rfl, hR4, hB4⟩
    have HR4 := hide hR4
    have HB4 : Hid (Below w.heap.size w w4) := HB3.out.trans (hB4.mono HB3.out.size)
    have HQ4 : Hid (Blk w4 w.heap.size #[.slice va l.length vc] 24) := HQ3.out.below hB4 HQ3.out.lt
    clear hR4 hB4 x0 HQ3
    go_wp2_with fail
    generalize hW5 : w4.alloc (Obj.cells #[.slice a4 l.length c4] 27) = W5
    have HW5 : Hid (Below w.heap.size w W5 ∧ StrsAt W5 w3.heap.size W5.heap.size (.slice a4 l.length c4) l ∧ Blk W5 w.heap.size #[.slice va l.length vc] 24 ∧ Blk W5 w4.heap.size #[.slice a4 l.length c4] 27) := by
      subst hW5
      have hb : Below w4.heap.size w4 (w4.alloc (Obj.cells #[.slice a4 l.length c4] 27)) := (Below.refl _ _).alloc (Nat.le_refl _) _
      exact ⟨HB4.out.trans (hb.mono HB4.out.size), (HR4.out.keep hb (Nat.le_refl _)).wide (Nat.le_refl _) (by simp), HQ4.out.alloc _, Blk.new _ _ _⟩
    clear hW5
    refine (HIm.out W5 _ a4 _ HW5.out.2.1).mono ?_
    rintro e w6 ⟨rfl, hB6⟩
    have HB6 : Hid (Below w.heap.size w w6) := HW5.out.1.trans (hB6.mono HW5.out.1.size)
    have HR6 : Hid (StrsAt w6 w3.heap.size W5.heap.size (.slice a4 l.length c4) l) := HW5.out.2.1.keep hB6 (Nat.le_refl _)
    have HZ6 : Hid (W5.heap.size ≤ w6.heap.size) := hB6.size
    have HQ6 : Hid (Blk w6 w.heap.size #[.slice va l.length vc] 24) := HW5.out.2.2.1.below hB6 HW5.out.2.2.1.lt
    have HP6 : Hid (Blk w6 w4.heap.size #[.slice a4 l.length c4] 27) := HW5.out.2.2.2.below hB6 HW5.out.2.2.2.lt
    clear hB6 HR4
    have x0 := HQ6.out.cell 0 _ rfl
    have y0 := HP6.out.cell 0 _ rfl
    have HTo6 : Hid (∀ W, Below w6.heap.size w6 W → Calls Try.prog 6 #[.agg #[.slice va l.length vc]] W fun e w' => ∃ a c, e = .returned (.agg #[.slice a l.length c]) ∧ StrsAt w' W.heap.size w'.heap.size (.slice a l.length c) l ∧ Below w6.heap.size w6 w') := fun W hb =>
      (HTo.out W (HB6.out.trans (hb.mono HB6.out.size))).mono fun e w' ⟨a, c, h1, h2, h3⟩ => ⟨a, c, h1, h2, hb.trans (h3.mono hb.size)⟩
    have HEq6 : Hid (∀ W lo2 a c, Below w6.heap.size w6 W → StrsAt W lo2 W.heap.size (.slice a l.length c) l → Calls Try.prog 8 #[.agg #[.slice a4 l.length c4], .agg #[.slice a l.length c]] W fun e w' => e = .returned (.bool true) ∧ Below w.heap.size w w') := fun W lo2 a c hb hr =>
      (HEq.out W _ W5.heap.size lo2 _ _ a c (HR6.out.keep hb HZ6.out) (Nat.le_trans HZ6.out hb.size) hr).mono fun e w' ⟨h1, h2⟩ => ⟨h1, (HB6.out.trans (hb.mono HB6.out.size)).trans (h2.mono (Nat.le_trans HB6.out.size hb.size))⟩
    have hnn : (ok != ok) = false := by cases ok <;> rfl
    clear HTo HEq HSp HIm HW5 HQ4
    go_wp2_with fail
    go_region_with (first
      | (go_at_call 6
         refine (HTo6.out _ (by first | exact (Below.refl _ _).drew | exact Below.refl _ _)).mono ?_
         rintro e w7 ⟨a7, c7, rfl, hR7, hB7⟩
         have HR7 := hide hR7
         have HB7 := hide hB7
         have HP7 : Hid (Blk w7 w4.heap.size #[.slice a4 l.length c4] 27) := HP6.out.below hB7 HP6.out.lt
         have z0 := HP7.out.cell 0 _ rfl
         clear hR7 hB7)
      | (go_at_call 8
         refine (HEq6.out _ _ _ _ HB7.out HR7.out).mono ?_
         rintro e w8 ⟨rfl, hB8⟩
         have HB8 := hide hB8
         clear hB8))
    all_goals
      go_wp2_with fail
      go_ret
      exact ⟨rfl, HB8.out⟩

end Go.Proofs.Ytffillcaoajkbaa
