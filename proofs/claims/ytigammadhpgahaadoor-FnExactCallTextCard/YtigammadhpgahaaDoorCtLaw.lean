/- The law FnExactCallText: it returns true, whatever call it is called with. -/
import Derived.Test.YtigammadhpgahaaDoorCtV
import Derived.Test.YtigammadhpgahaaDoorSzN
import Derived.Deep.QuietTactic
import Derived.BigQuiet
import Derived.Deep.RegionWith
namespace Go.Proofs.YtigammadhpgahaaDoor
open Go.RowKit

theorem szC_fits (c : Cl) (L : Int) (h0 : 0 ≤ L) (h : 0 ≤ szC c L) : (c.path.length : Int) ≤ L ∧ (c.to.length : Int) ≤ L := by
  unfold szC at h
  split at h
  · omega
  · rename_i h1
    split at h
    · omega
    · rename_i h2
      have g1 := szStrs_fits c.path L (by omega)
      have g2 := szStrs_fits c.to (szStrs c.path L) (by omega)
      have g3 := szStrs_le c.path L h0
      omega
theorem OwnC.cl {c : Cl} {b1 b2 : Nat} {pa ta : Option Addr} {W : World} (h : OwnC c b1 b2 pa ta W) (hd : c.data.size ≤ maxLen) : ClOk W 0 W.heap.size c pa c.path.length ta c.to.length :=
  ⟨h.1.strs.wide (Nat.zero_le _) (by have := h.2.2; omega), h.2.1.strs.wide (Nat.zero_le _) (by have := h.2.2; omega), hd⟩

set_option maxHeartbeats 1000000 in
set_option maxRecDepth 100000 in
theorem callTextLaw_any (c : Cl) (pa : Option Addr) (pc : Nat) (ta : Option Addr) (tc : Nat) (w : World) (lo hi : Nat) (hc : ClOk w lo hi c pa pc ta tc) (hhi : hi ≤ w.heap.size) (hF : CFormsAt w) :
    Calls Tryd.prog 3 #[aggC c pa pc ta tc] w fun e w' => e = .returned (.bool true) ∧ Below w.heap.size w w' := by
  have HSz : Hid (∀ W, Below w.heap.size w W → Calls Tryd.prog 4 #[aggC c pa pc ta tc, .int .i64 1048576] W fun e w' => e = .returned (.int .i64 (szC c 1048576)) ∧ Below W.heap.size W w') := fun W hb => szCall_any c pa pc ta tc 1048576 W lo hi (hc.keep hb hhi) (Nat.le_trans hhi hb.size) (by decide) (by decide)
  have HTo : Hid (0 ≤ szC c 1048576 → ∀ W, Below w.heap.size w W → Calls Tryd.prog 6 #[aggC c pa pc ta tc] W fun r w' => ∃ pa' ta' b1 b2, r = .returned (aggC c pa' c.path.length ta' c.to.length) ∧ OwnC c b1 b2 pa' ta' w' ∧ Below W.heap.size W w') := fun hz W hb => by
    have hl := szC_fits c 1048576 (by decide) hz
    exact (toCall_any c pa pc ta tc W lo hi (hc.keep hb hhi) (Nat.le_trans hhi hb.size) (by omega) (by omega)).mono fun e w' ⟨p1, t1, b1, b2, h1, _, h3, h4⟩ => ⟨p1, t1, b1, b2, h1, h3, h4⟩
  have HSp : Hid (∀ W b1 b2 pa' ta', OwnC c b1 b2 pa' ta' W → Calls Tryd.prog 5 #[aggC c pa' c.path.length ta' c.to.length] W fun e w' => e = .returned (.string (textC c)) ∧ Below W.heap.size W w') := fun W b1 b2 pa' ta' ho => specCallText_any c pa' _ ta' _ W 0 W.heap.size (ho.cl hc.2.2) (Nat.le_refl _)
  have HFl := hide hF.lt
  have HIm : Hid (∀ W b1 b2 pa' ta', OwnC c b1 b2 pa' ta' W → Below w.heap.size w W → Calls Tryd.prog 7 #[aggC c pa' c.path.length ta' c.to.length] W fun e w' => e = .returned (.string (textC c)) ∧ Below W.heap.size W w') := fun W b1 b2 pa' ta' ho hb => implCallText_any c pa' _ ta' _ W 0 W.heap.size (ho.cl hc.2.2) (Nat.le_refl _) (Nat.le_refl _) (Nat.le_refl _) (hF.keep hb)
  have HEq : Hid (∀ W b1 b2 pa' ta' d1 d2 pb tb, OwnC c b1 b2 pa' ta' W → OwnC c d1 d2 pb tb W → Calls Tryd.prog 8 #[aggC c pa' c.path.length ta' c.to.length, aggC c pb c.path.length tb c.to.length] W fun e w' => e = .returned (.bool true) ∧ Below W.heap.size W w') := fun W b1 b2 pa' ta' d1 d2 pb tb h1 h2 => eqCall_any c pa' pb _ _ ta' tb _ _ W 0 W.heap.size 0 W.heap.size (h1.cl hc.2.2) (h2.cl hc.2.2) (Nat.le_refl _) (Nat.le_refl _)
  have HA : Hid (∀ o, Below w.heap.size w (w.alloc o)) := fun o => (Below.refl _ _).alloc (Nat.le_refl _) o
  clear hc hF
  obtain ⟨kind, path, dst, num, data⟩ := c
  have HOb : Hid (∀ {b1 b2 pa' ta' W W'}, OwnC ⟨kind, path, dst, num, data⟩ b1 b2 pa' ta' W → Below W.heap.size W W' → OwnC ⟨kind, path, dst, num, data⟩ b1 b2 pa' ta' W') := fun h hb => h.below hb
  dsimp only [aggC] at *
  generalize szC ⟨kind, path, dst, num, data⟩ 1048576 = sz at HSz HTo
  generalize textC ⟨kind, path, dst, num, data⟩ = tx at HSp HIm
  go_enter Tryd.func3, Tryd.ntmps3
  go_wp2_with fail
  generalize hW : w.alloc (Obj.cells #[.int .i64 kind, .slice pa path.length pc, .slice ta dst.length tc, .int .i64 num, .string data] 24) = W
  have HW : Hid (Below w.heap.size w W ∧ Blk W w.heap.size #[.int .i64 kind, .slice pa path.length pc, .slice ta dst.length tc, .int .i64 num, .string data] 24) := by
    subst hW
    exact ⟨HA.out _, Blk.new w _ _⟩
  clear hW HA
  refine (HSz.out W HW.out.1).mono ?_
  rintro e w1 ⟨rfl, hB1⟩
  have HB1 : Hid (Below w.heap.size w w1 ∧ Blk w1 w.heap.size #[.int .i64 kind, .slice pa path.length pc, .slice ta dst.length tc, .int .i64 num, .string data] 24) := ⟨HW.out.1.trans (hB1.mono HW.out.1.size), HW.out.2.below hB1 HW.out.2.lt⟩
  clear hB1 HSz HW
  by_cases hz : sz < 0
  · go_wp2_with fail
    go_ret
    exact ⟨rfl, HB1.out.1⟩
  have HTo := hide (HTo.out (by omega))
  have HNx : Hid (∀ {W W'}, Below w.heap.size w W ∧ Blk W w.heap.size #[.int .i64 kind, .slice pa path.length pc, .slice ta dst.length tc, .int .i64 num, .string data] 24 → Below W.heap.size W W' → Below w.heap.size w W' ∧ Blk W' w.heap.size #[.int .i64 kind, .slice pa path.length pc, .slice ta dst.length tc, .int .i64 num, .string data] 24) := fun h hb => ⟨h.1.trans (hb.mono h.1.size), h.2.below hb h.2.lt⟩
  have x0 := HB1.out.2.cell 0 _ rfl
  have x1 := HB1.out.2.cell 1 _ rfl
  have x2 := HB1.out.2.cell 2 _ rfl
  have x3 := HB1.out.2.cell 3 _ rfl
  have x4 := HB1.out.2.cell 4 _ rfl
  go_wp2_with fail
  refine (HTo.out w1 HB1.out.1).mono ?_
  rintro e w2 ⟨pa2, ta2, b1, b2, rfl, hO2, hB2⟩
  have HO2 := hide hO2
  have HB2 := hide (HNx.out HB1.out hB2)
  clear hO2 hB2 x0 x1 x2 x3 x4 HB1
  go_wp2_with fail
  refine (HSp.out w2 _ _ _ _ HO2.out).mono ?_
  rintro e w3 ⟨rfl, hB3⟩
  have HB3 := hide (HNx.out HB2.out hB3)
  clear hB3 HB2 HO2
  have x0 := HB3.out.2.cell 0 _ rfl
  have x1 := HB3.out.2.cell 1 _ rfl
  have x2 := HB3.out.2.cell 2 _ rfl
  have x3 := HB3.out.2.cell 3 _ rfl
  have x4 := HB3.out.2.cell 4 _ rfl
  go_wp2_with fail
  refine (HTo.out w3 HB3.out.1).mono ?_
  rintro e w4 ⟨pa4, ta4, d1, d2, rfl, hO4, hB4⟩
  have HO4 := hide hO4
  have HB4 := hide (HNx.out HB3.out hB4)
  clear hO4 hB4 x0 x1 x2 x3 x4 HB3
  go_wp2_with fail
  generalize hW5 : w4.alloc (Obj.cells #[.int .i64 kind, .slice pa4 path.length path.length, .slice ta4 dst.length dst.length, .int .i64 num, .string data] 27) = w5
  have HB5 : Hid ((Below w.heap.size w w5 ∧ Blk w5 w.heap.size #[.int .i64 kind, .slice pa path.length pc, .slice ta dst.length tc, .int .i64 num, .string data] 24) ∧ OwnC ⟨kind, path, dst, num, data⟩ d1 d2 pa4 ta4 w5 ∧ Blk w5 w4.heap.size #[.int .i64 kind, .slice pa4 path.length path.length, .slice ta4 dst.length dst.length, .int .i64 num, .string data] 27) := by
    subst hW5
    have hb : Below w4.heap.size w4 (w4.alloc (Obj.cells #[.int .i64 kind, .slice pa4 path.length path.length, .slice ta4 dst.length dst.length, .int .i64 num, .string data] 27)) := (Below.refl _ _).alloc (Nat.le_refl _) _
    exact ⟨HNx.out HB4.out hb, HOb.out HO4.out hb, Blk.new _ _ _⟩
  clear hW5 HO4 HB4
  have y0 := HB5.out.2.2.cell 0 _ rfl
  have y1 := HB5.out.2.2.cell 1 _ rfl
  have y2 := HB5.out.2.2.cell 2 _ rfl
  have y3 := HB5.out.2.2.cell 3 _ rfl
  have y4 := HB5.out.2.2.cell 4 _ rfl
  try go_wp2_with fail
  refine (HIm.out w5 _ _ _ _ HB5.out.2.1 HB5.out.1.1).mono ?_
  rintro e w6 ⟨rfl, hB6⟩
  have HB6 : Hid ((Below w.heap.size w w6 ∧ Blk w6 w.heap.size #[.int .i64 kind, .slice pa path.length pc, .slice ta dst.length tc, .int .i64 num, .string data] 24) ∧ OwnC ⟨kind, path, dst, num, data⟩ d1 d2 pa4 ta4 w6 ∧ Blk w6 w4.heap.size #[.int .i64 kind, .slice pa4 path.length path.length, .slice ta4 dst.length dst.length, .int .i64 num, .string data] 27) := ⟨HNx.out HB5.out.1 hB6, HOb.out HB5.out.2.1 hB6, HB5.out.2.2.below hB6 HB5.out.2.2.lt⟩
  clear hB6 HB5 y0 y1 y2 y3 y4
  have x0 := HB6.out.1.2.cell 0 _ rfl
  have x1 := HB6.out.1.2.cell 1 _ rfl
  have x2 := HB6.out.1.2.cell 2 _ rfl
  have x3 := HB6.out.1.2.cell 3 _ rfl
  have x4 := HB6.out.1.2.cell 4 _ rfl
  have y0 := HB6.out.2.2.cell 0 _ rfl
  have y1 := HB6.out.2.2.cell 1 _ rfl
  have y2 := HB6.out.2.2.cell 2 _ rfl
  have y3 := HB6.out.2.2.cell 3 _ rfl
  have y4 := HB6.out.2.2.cell 4 _ rfl
  have HD6 : Hid (Below w6.heap.size w6 w6.drew) := (Below.refl _ _).drew
  have HR6 : Hid (Below w6.heap.size w6 w6) := Below.refl _ _
  go_wp2_with fail
  go_region_with (first
    | (go_at_call 6; refine (HTo.out _ (by first | exact HB6.out.1.1 | exact HB6.out.1.1.drew)).mono ?_; rintro e w7 ⟨pa7, ta7, e1, e2, rfl, hO7, hB7⟩; have hB7' : Below w6.heap.size w6 w7 := (by first | exact hB7 | exact undrewB hB7); have HB7 : Hid (OwnC ⟨kind, path, dst, num, data⟩ e1 e2 pa7 ta7 w7 ∧ OwnC ⟨kind, path, dst, num, data⟩ d1 d2 pa4 ta4 w7 ∧ Below w.heap.size w w7 ∧ Blk w7 w4.heap.size #[.int .i64 kind, .slice pa4 path.length path.length, .slice ta4 dst.length dst.length, .int .i64 num, .string data] 27) := ⟨hO7, HOb.out HB6.out.2.1 hB7', (HNx.out HB6.out.1 hB7').1, HB6.out.2.2.below hB7' HB6.out.2.2.lt⟩; have z0 := HB7.out.2.2.2.cell 0 _ rfl; have z1 := HB7.out.2.2.2.cell 1 _ rfl; have z2 := HB7.out.2.2.2.cell 2 _ rfl; have z3 := HB7.out.2.2.2.cell 3 _ rfl; have z4 := HB7.out.2.2.2.cell 4 _ rfl; clear hO7 hB7 hB7')
    | (go_at_call 8; refine (HEq.out _ _ _ _ _ _ _ _ _ HB7.out.2.1 HB7.out.1).mono ?_; rintro e w8 ⟨rfl, hB8⟩; have HB8 : Hid (Below w.heap.size w w8) := HB7.out.2.2.1.trans (hB8.mono HB7.out.2.2.1.size); clear hB8))
  all_goals
    go_wp2_with fail
    go_ret
    exact ⟨rfl, HB8.out⟩

end Go.Proofs.YtigammadhpgahaaDoor
