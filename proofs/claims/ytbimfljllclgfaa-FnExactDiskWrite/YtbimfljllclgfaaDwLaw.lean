/- The law FnExactDiskWrite: it returns true, whatever disk, writes and cut it is called with. -/
import Derived.Test.YtbimfljllclgfaaDwM
import Derived.Deep.QuietTactic
import Derived.BigQuiet
import Derived.Deep.RegionWith
namespace Go.Proofs.Ytbimfljllclgfaa
open Go.RowKit

set_option maxHeartbeats 8000000 in
set_option maxRecDepth 100000 in
theorem diskWriteLaw_any (l : List ByteArray) (rs : List Rw) (cut : Int) (v rv : Value) (w : World) (lo hi lo' hi' : Nat) (hv : StrsAt w lo hi v l) (hhi : hi ≤ w.heap.size) (hr : RwsAt w lo' hi' rv rs) (hhi' : hi' ≤ w.heap.size) :
    Calls Try.prog 3 #[.agg #[v], rv, .int .i64 cut] w fun e w' => e = .returned (.bool true) ∧ Below w.heap.size w w' := by
  have HSz : Hid (∀ W, Below w.heap.size w W → Calls Try.prog 4 #[.agg #[v], .int .i64 1048576] W fun e w' => e = .returned (.int .i64 (szStrs l 1048576)) ∧ Below W.heap.size W w') := fun W hb => szDisk_any l v 1048576 W lo hi (hv.keep hb hhi) (Nat.le_trans hhi hb.size) (by omega) (by omega)
  have HSzR : Hid (0 ≤ szStrs l 1048576 → ∀ W, Below w.heap.size w W → Calls Try.prog 5 #[rv, .int .i64 (szStrs l 1048576)] W fun e w' => ∃ m : Int, e = .returned (.int .i64 m) ∧ (0 ≤ m → rs.length ≤ 1048576) ∧ Below W.heap.size W w') := fun hz W hb =>
    (szRawS_any rs rv _ W lo' hi' (hr.keep hb hhi') (Nat.le_trans hhi' hb.size) hz (szStrs_le l _ (by omega))).mono fun e w' ⟨h1, h2⟩ => ⟨_, h1, fun h => by have := szR_len h; have := szStrs_le l 1048576 (by omega); omega, h2⟩
  have HTo : Hid (0 ≤ szStrs l 1048576 → ∀ W, Below w.heap.size w W → Calls Try.prog 7 #[.agg #[v]] W fun e w' => ∃ a c, e = .returned (.agg #[.slice a l.length c]) ∧ (∃ b, OwnStrs w' W.heap.size w'.heap.size b (.slice a l.length c) l) ∧ Below W.heap.size W w') := fun hz W hb =>
    toDisk_any l v W lo hi (hv.keep hb hhi) (Nat.le_trans hhi hb.size) (by have := szStrs_fits l _ hz; omega)
  have HToR : Hid (rs.length ≤ 1048576 → ∀ W, Below w.heap.size w W → Calls Try.prog 8 #[rv] W fun e w' => ∃ a c, e = .returned (.slice a rs.length c) ∧ OwnRws w' W.heap.size w'.heap.size W.heap.size (.slice a rs.length c) rs ∧ Below W.heap.size W w' ∧ W.heap.size < w'.heap.size) := fun hz W hb =>
    toRawS_any rs rv W lo' hi' (hr.keep hb hhi') (Nat.le_trans hhi' hb.size) hz
  have HSp : Hid (rs.length ≤ 1048576 → ∀ W lo1 hi1 lo2 hi2 a c ra rc, StrsAt W lo1 hi1 (.slice a l.length c) l → hi1 ≤ W.heap.size → RwsAt W lo2 hi2 (.slice ra rs.length rc) rs → hi2 ≤ W.heap.size → Calls Try.prog 6 #[.agg #[.slice a l.length c], .slice ra rs.length rc, .int .i64 cut] W fun e w' => ∃ a c, e = .returned (.agg #[.slice a (diskV l rs cut).length c]) ∧ (∃ b, OwnStrs w' W.heap.size w'.heap.size b (.slice a (diskV l rs cut).length c) (diskV l rs cut)) ∧ Below W.heap.size W w') := fun hz W lo1 hi1 lo2 hi2 a c ra rc h1 h2 h3 h4 =>
    (specDiskWrite_any l rs cut _ _ W lo1 hi1 lo2 hi2 h1 h2 h3 h4 hz).mono fun e w' ⟨h5, a', c', b', h6, h7⟩ => ⟨a', c', h6, ⟨b', h7⟩, h5⟩
  have HIm : Hid (∀ W lo1 hi1 lo2 hi2 a c ra rc rb, StrsAt W lo1 hi1 (.slice a l.length c) l → hi1 ≤ W.heap.size → OwnRws W lo2 hi2 rb (.slice ra rs.length rc) rs → rb < W.heap.size → Calls Try.prog 9 #[.agg #[.slice a l.length c], .slice ra rs.length rc, .int .i64 cut] W fun e w' => ∃ a c, e = .returned (.agg #[.slice a (diskV l rs cut).length c]) ∧ (∃ b, OwnStrs w' W.heap.size w'.heap.size b (.slice a (diskV l rs cut).length c) (diskV l rs cut)) ∧ Below W.heap.size W w') := fun W lo1 hi1 lo2 hi2 a c ra rc rb h1 h2 h3 h4 =>
    (implDiskWrite_any l rs cut _ _ rb W lo1 hi1 lo2 hi2 h1 h2 h3 h4).mono fun e w' ⟨h5, a', c', b', h6, h7⟩ => ⟨a', c', h6, ⟨b', h7⟩, h5⟩
  have HEq : Hid (∀ (L : List ByteArray) W lo1 hi1 lo2 hi2 a c a2 c2, StrsAt W lo1 hi1 (.slice a L.length c) L → hi1 ≤ W.heap.size → StrsAt W lo2 hi2 (.slice a2 L.length c2) L → hi2 ≤ W.heap.size → Calls Try.prog 10 #[.agg #[.slice a L.length c], .agg #[.slice a2 L.length c2]] W fun e w' => e = .returned (.bool true) ∧ Below W.heap.size W w') :=
    fun L W lo1 hi1 lo2 hi2 a c a2 c2 h1 h2 h3 h4 => eqDisk_any L _ _ W lo1 hi1 lo2 hi2 h1 h3 h2 h4
  have HEqR : Hid (∀ W lo1 hi1 lo2 hi2 a c a2 c2, RwsAt W lo1 hi1 (.slice a rs.length c) rs → hi1 ≤ W.heap.size → RwsAt W lo2 hi2 (.slice a2 rs.length c2) rs → hi2 ≤ W.heap.size → Calls Try.prog 11 #[.slice a rs.length c, .slice a2 rs.length c2] W fun e w' => e = .returned (.bool true) ∧ Below W.heap.size W w') :=
    fun W lo1 hi1 lo2 hi2 a c a2 c2 h1 h2 h3 h4 => eqRawS_any rs _ _ W lo1 hi1 lo2 hi2 h1 h3 h2 h4
  have HVl := hide (diskV_le l rs cut)
  have HLl : Hid (0 ≤ szStrs l 1048576 → l.length ≤ 1048576) := fun h => by have := szStrs_fits l _ h; omega
  have HA : Hid (∀ o, Below w.heap.size w (w.alloc o)) := fun o => (Below.refl _ _).alloc (Nat.le_refl _) o
  obtain ⟨va, vc, rfl, _⟩ := hv
  obtain ⟨ra, rc, rfl, hrl, _⟩ := hr
  generalize szStrs l 1048576 = sz at HSz HSzR HTo HLl
  generalize diskV l rs cut = V at HSp HIm HVl
  go_enter Try.func3, Try.ntmps3
  go_wp2_with fail
  generalize hW : w.alloc (Obj.cells #[.slice va l.length vc] 24) = W
  have HW : Hid (Below w.heap.size w W ∧ W.heap.size = w.heap.size + 1 ∧ Blk W w.heap.size #[.slice va l.length vc] 24) := by
    subst hW
    exact ⟨HA.out _, by simp, Blk.new w _ _⟩
  clear hW HA
  refine (HSz.out W HW.out.1).mono ?_
  rintro e w1 ⟨rfl, hB1⟩
  have HB1 : Hid (Below w.heap.size w w1) := HW.out.1.trans (hB1.mono HW.out.1.size)
  have HQ1 : Hid (Blk w1 w.heap.size #[.slice va l.length vc] 24) := HW.out.2.2.below hB1 (by have := HW.out.2.1; omega)
  clear hB1 HSz HW
  by_cases hz : sz < 0
  · go_wp2_with fail
    go_ret
    exact ⟨rfl, HB1.out⟩
  have HTo := hide (HTo.out (by omega))
  have HSzR := hide (HSzR.out (by omega))
  have HLl := hide (HLl.out (by omega))
  go_wp2_with fail
  refine (HSzR.out w1 HB1.out).mono ?_
  rintro e w2 ⟨m, rfl, hm, hB2⟩
  have HM := hide hm
  have HB2 : Hid (Below w.heap.size w w2) := HB1.out.trans (hB2.mono HB1.out.size)
  have HQ2 : Hid (Blk w2 w.heap.size #[.slice va l.length vc] 24) := HQ1.out.below hB2 HQ1.out.lt
  clear hm hB2 HQ1 HSzR
  by_cases hmz : m < 0
  · go_wp2_with fail
    go_ret
    exact ⟨rfl, HB2.out⟩
  have HRl := hide (HM.out (by omega))
  have HToR := hide (HToR.out HRl.out)
  have HSp := hide (HSp.out HRl.out)
  have x0 := HQ2.out.cell 0 _ rfl
  clear hrl HM
  go_wp2_with fail
  refine (HTo.out w2 HB2.out).mono ?_
  rintro e w3 ⟨a3, c3, rfl, ⟨_, hO3⟩, hB3⟩
  have HS3 := hide hO3.strs
  have HB3 : Hid (Below w.heap.size w w3) := HB2.out.trans (hB3.mono HB2.out.size)
  have HQ3 : Hid (Blk w3 w.heap.size #[.slice va l.length vc] 24) := HQ2.out.below hB3 HQ2.out.lt
  clear hO3 hB3 x0 HQ2
  go_wp2_with fail
  refine (HToR.out w3 HB3.out).mono ?_
  rintro e w4 ⟨a4, c4, rfl, hO4, hB4, _⟩
  have HR4 := hide hO4.rws
  have HS4 := hide (HS3.out.keep hB4 (Nat.le_refl _))
  have HZ4 : Hid (w3.heap.size ≤ w4.heap.size) := hB4.size
  have HB4 : Hid (Below w.heap.size w w4) := HB3.out.trans (hB4.mono HB3.out.size)
  have HQ4 : Hid (Blk w4 w.heap.size #[.slice va l.length vc] 24) := HQ3.out.below hB4 HQ3.out.lt
  clear hO4 hB4 HQ3
  go_wp2_with fail
  refine (HSp.out w4 _ _ _ _ a3 c3 a4 c4 HS4.out HZ4.out HR4.out (Nat.le_refl _)).mono ?_
  rintro e w5 ⟨a5, c5, rfl, ⟨_, hO5⟩, hB5⟩
  have HS5 := hide hO5.strs
  have HB5 : Hid (Below w.heap.size w w5) := HB4.out.trans (hB5.mono HB4.out.size)
  have HQ5 : Hid (Blk w5 w.heap.size #[.slice va l.length vc] 24) := HQ4.out.below hB5 HQ4.out.lt
  have HZ5 : Hid (w.heap.size < w4.heap.size ∧ w4.heap.size ≤ w5.heap.size) := ⟨HQ4.out.lt, hB5.size⟩
  clear hO5 hB5 HQ4 HS4 HR4 HS3 HSp
  have x1 : ∀ o, (w5.alloc o).cell? ⟨w.heap.size, 0, none⟩ = some (.slice va l.length vc) := fun o => (HQ5.out.alloc o).cell 0 _ rfl
  go_wp2_with fail
  generalize hW6 : w5.alloc (Obj.cells #[.slice a5 V.length c5] 28) = W6
  have HW6 : Hid (Below w.heap.size w W6 ∧ StrsAt W6 w4.heap.size w5.heap.size (.slice a5 V.length c5) V ∧ Blk W6 w.heap.size #[.slice va l.length vc] 24 ∧ Blk W6 w5.heap.size #[.slice a5 V.length c5] 28 ∧ W6.heap.size = w5.heap.size + 1) := by
    subst hW6
    have hb : Below w5.heap.size w5 (w5.alloc (Obj.cells #[.slice a5 V.length c5] 28)) := (Below.refl _ _).alloc (Nat.le_refl _) _
    exact ⟨HB5.out.trans (hb.mono HB5.out.size), HS5.out.keep hb (Nat.le_refl _), HQ5.out.alloc _, Blk.new _ _ _, by simp⟩
  clear hW6 HQ5 HS5 x1
  refine (HTo.out W6 HW6.out.1).mono ?_
  rintro e w7 ⟨a7, c7, rfl, ⟨b7, hO7⟩, hB7⟩
  have HO7 := hide hO7
  have HB7 := hide hB7
  clear hO7 hB7
  go_wp2_with fail
  generalize hW8 : w7.alloc (Obj.cells #[.slice a7 l.length c7] 28) = W8
  have HW8 : Hid (Below W6.heap.size W6 W8 ∧ OwnStrs W8 W6.heap.size w7.heap.size b7 (.slice a7 l.length c7) l ∧ Blk W8 w7.heap.size #[.slice a7 l.length c7] 28 ∧ W8.heap.size = w7.heap.size + 1 ∧ W6.heap.size ≤ w7.heap.size) := by
    subst hW8
    have hb : Below w7.heap.size w7 (w7.alloc (Obj.cells #[.slice a7 l.length c7] 28)) := (Below.refl _ _).alloc (Nat.le_refl _) _
    exact ⟨HB7.out.trans (hb.mono HB7.out.size), HO7.out.same (sameIn_below hb (Nat.le_refl _)), Blk.new _ _ _, by simp, HB7.out.size⟩
  clear hW8 HO7 HB7
  refine (HToR.out W8 (HW6.out.1.trans (HW8.out.1.mono HW6.out.1.size))).mono ?_
  rintro e w9 ⟨a9, c9, rfl, hO9, hB9, hZ9⟩
  have HO9 := hide hO9
  have HB9 := hide hB9
  have HZ9 := hide hZ9
  have HX9 := hide (HW8.out.2.1.same (sameIn_below hB9 (by have := HW8.out.2.2.2.1; omega)))
  have x2 := (HW8.out.2.2.1.below hB9 HW8.out.2.2.1.lt).cell 0 _ rfl
  clear hO9 hB9 hZ9
  go_wp2_with fail
  refine (HIm.out w9 _ _ _ _ a7 c7 a9 c9 _ HX9.out.strs (by have := HW8.out.2.2.2.1; have := HZ9.out; omega) HO9.out HZ9.out).mono ?_
  rintro e w10 ⟨a10, c10, rfl, ⟨b10, hO10⟩, hB10⟩
  have HO10 := hide hO10
  have HB10 := hide hB10
  clear hO10 hB10 x2
  have y0 : ∀ o, (w10.alloc o).cell? ⟨w5.heap.size, 0, none⟩ = some (.slice a5 V.length c5) := fun o =>
    (((((HW6.out.2.2.2.1.below HW8.out.1 HW6.out.2.2.2.1.lt).below HB9.out (by have := HW6.out.2.2.2.2; have := HW8.out.2.2.2; omega)).below HB10.out (by have := HW6.out.2.2.2.2; have := HW8.out.2.2.2; have := HZ9.out; omega)).alloc o)).cell 0 _ rfl
  go_wp2_with fail
  generalize hW11 : w10.alloc (Obj.cells #[.slice a10 V.length c10] 28) = W11
  have HB811 : Hid (Below W8.heap.size W8 W11 ∧ Below w9.heap.size w9 W11 ∧ W11.heap.size = w10.heap.size + 1 ∧ w9.heap.size ≤ w10.heap.size) := by
    subst hW11
    have hb : Below w9.heap.size w9 (w10.alloc (Obj.cells #[.slice a10 V.length c10] 28)) := HB10.out.alloc HB10.out.size _
    exact ⟨HB9.out.trans (hb.mono HB9.out.size), hb, by simp, HB10.out.size⟩
  have HF11 : Hid (Led w (.slice va l.length vc) V a5 c5 w4.heap.size w5.heap.size w5.heap.size (.slice a7 l.length c7) W6.heap.size w7.heap.size w7.heap.size W8.heap.size w9.heap.size w9.heap.size w10.heap.size (.slice a10 V.length c10) w10.heap.size W11 ∧ OwnStrs W11 w9.heap.size w10.heap.size b10 (.slice a10 V.length c10) V) := by
    have z5 := HZ5.out
    have z6 := HW6.out.2.2.2.2
    have z8 := HW8.out.2.2.2
    have z9 := HZ9.out
    have z11 := HB811.out.2.2
    have hb6 : Below W6.heap.size W6 W11 := HW8.out.1.trans (HB811.out.1.mono (by omega))
    refine ⟨⟨HW6.out.1.trans (hb6.mono HW6.out.1.size), HW6.out.2.2.1.below hb6 (by omega), HW6.out.2.2.2.1.below hb6 (by omega), HW6.out.2.1.keep hb6 (by omega), HW8.out.2.2.1.below HB811.out.1 (by omega), ?_, by omega⟩, ?_⟩
    · subst hW11; exact Blk.new _ _ _
    · subst hW11; exact HO10.out.same (sameIn_below ((Below.refl _ _).alloc (Nat.le_refl _) _) (Nat.le_refl _))
  have HX11 : Hid (OwnStrs W11 W6.heap.size w7.heap.size b7 (.slice a7 l.length c7) l) := HW8.out.2.1.same (sameIn_below HB811.out.1 (by have := HW8.out.2.2.2.1; omega))
  have HR11 : Hid (OwnRws W11 W8.heap.size w9.heap.size W8.heap.size (.slice a9 rs.length c9) rs) := HO9.out.same (sameIn_below HB811.out.2.1 (Nat.le_refl _))
  have HL11 := hide HF11.out.1
  have HG11 := hide HF11.out.2
  clear hW11 HB811 HF11 HO10 HB10 HX9 HZ9 HB9 HO9 HW8 HW6 HZ5 HB5 y0 HB4 HB3 HB2 HB1 HZ4
  clear hz hmz
  generalize W6.heap.size = n6 at *
  generalize W8.heap.size = n8 at *
  generalize w4.heap.size = n4 at *
  generalize w5.heap.size = n5 at *
  generalize w7.heap.size = n7 at *
  generalize w9.heap.size = n9 at *
  generalize w10.heap.size = n10 at *
  --@@1
  refine (HEq.out V W11 n9 n10 n4 n5 a10 c10 a5 c5 HG11.out.strs (by have := HL11.out.size; omega) HL11.out.s8 (by have := HL11.out.size; have := HL11.out.ord; omega)).mono ?_
  rintro e w12 ⟨rfl, hB12⟩
  have HL12 := hide (HL11.out.step hB12)
  have HG12 := hide (HG11.out.same (sameIn_below hB12 (by have := HL11.out.size; omega)))
  have HX12 := hide (HX11.out.same (sameIn_below hB12 (by have := HL11.out.size; have := HL11.out.ord; omega)))
  have HR12 := hide (HR11.out.same (sameIn_below hB12 (by have := HL11.out.size; have := HL11.out.ord; omega)))
  clear hB12 HL11 HG11 HX11 HR11
  have x0 := HL12.out.q.cell 0 _ rfl
  have x9 := HL12.out.box9.cell 0 _ rfl
  have HTo12 : Hid (∀ W, Below w12.heap.size w12 W → Calls Try.prog 7 #[.agg #[.slice va l.length vc]] W fun e w' => ∃ a c, e = .returned (.agg #[.slice a l.length c]) ∧ StrsAt w' W.heap.size w'.heap.size (.slice a l.length c) l ∧ Below w12.heap.size w12 w') := fun W hb =>
    (HTo.out W (HL12.out.below.trans (hb.mono HL12.out.below.size))).mono fun e w' ⟨a, c, h1, ⟨_, h2⟩, h3⟩ => ⟨a, c, h1, h2.strs, hb.trans (h3.mono hb.size)⟩
  have HEq12 : Hid (∀ W lo2 a c, Below w12.heap.size w12 W → StrsAt W lo2 W.heap.size (.slice a l.length c) l → Calls Try.prog 10 #[.agg #[.slice a7 l.length c7], .agg #[.slice a l.length c]] W fun e w' => e = .returned (.bool true) ∧ Below w12.heap.size w12 w') := fun W lo2 a c hb hr =>
    (HEq.out l W n6 n7 lo2 W.heap.size _ _ a c (HX12.out.strs.keep hb (by have := HL12.out.size; have := HL12.out.ord; omega)) (by have := HL12.out.size; have := HL12.out.ord; have := hb.size; omega) hr (Nat.le_refl _)).mono fun e w' ⟨h1, h2⟩ => ⟨h1, hb.trans (h2.mono hb.size)⟩
  go_wp2_with fail
  go_region_with (first | (go_at_call 7; refine (HTo12.out _ (by first | exact (Below.refl _ _).drew | exact Below.refl _ _)).mono ?_; rintro e w13 ⟨a13, c13, rfl, hR13, hB13⟩; have HR13 := hide hR13; have HB13 := hide hB13; have z0 := (HL12.out.box9.below hB13 HL12.out.box9.lt).cell 0 _ rfl; clear hR13 hB13) | (go_at_call 10; refine (HEq12.out _ _ _ _ HB13.out HR13.out).mono ?_; rintro e w14 ⟨rfl, hB14⟩; have HB14 := hide hB14; clear hB14))
  all_goals
    have HL14 := hide (HL12.out.step HB14.out)
    have HG14 := hide (HG12.out.same (sameIn_below HB14.out (by have := HL12.out.size; omega)))
    have HX14 := hide (HX12.out.same (sameIn_below HB14.out (by have := HL12.out.size; have := HL12.out.ord; omega)))
    have HR14 := hide (HR12.out.same (sameIn_below HB14.out (by have := HL12.out.size; have := HL12.out.ord; omega)))
    clear HL12 HG12 HX12 HR12 HB14 HB13 HR13 HTo12 HEq12 x0 x9 z0
    go_wp2_with fail
    refine (HToR.out w14 HL14.out.below).mono ?_
    rintro e w15 ⟨a15, c15, rfl, hO15, hB15, _⟩
    have HE15 := hide (HEqR.out w15 n8 n9 w14.heap.size w15.heap.size a9 c9 a15 c15 (HR14.out.rws.keep hB15 (by have := HL14.out.size; have := HL14.out.ord; omega)) (by have := HL14.out.size; have := HL14.out.ord; have := hB15.size; omega) hO15.rws (Nat.le_refl _))
    have HB15 := hide hB15
    clear hO15 hB15
    go_wp2_with fail
    refine HE15.out.mono ?_
    rintro e w16 ⟨rfl, hB16⟩
    have HB16 : Hid (Below w14.heap.size w14 w16) := HB15.out.trans (hB16.mono HB15.out.size)
    have HL16 := hide (HL14.out.step HB16.out)
    have HG16 := hide (HG14.out.same (sameIn_below HB16.out (by have := HL14.out.size; omega)))
    have HX16 := hide (HX14.out.same (sameIn_below HB16.out (by have := HL14.out.size; have := HL14.out.ord; omega)))
    have HR16 := hide (HR14.out.same (sameIn_below HB16.out (by have := HL14.out.size; have := HL14.out.ord; omega)))
    clear HL14 HG14 HX14 HR14 HB16 hB16 HB15 HE15
    have x9 := HL16.out.box9.cell 0 _ rfl
    go_wp2_with fail
    refine (markDisk_any l _ b7 w16 n6 n7 HX16.out (by have := HL16.out.size; have := HL16.out.ord; omega) HLl.out).mono ?_
    rintro e w17 ⟨k17, rfl, hk17, _, hI17⟩
    have HK17 := hide hk17
    have HL17 := hide (HL16.out.inr hI17 (.inl ⟨rfl, rfl⟩))
    have HG17 := hide (HG16.out.same (hI17.sameIn (fun k g1 g2 => by have := HL16.out.ord; omega) (by have := HL16.out.size; omega)))
    have HR17 := hide (HR16.out.same (hI17.sameIn (fun k g1 g2 => by have := HL16.out.ord; omega) (by have := HL16.out.size; have := HL16.out.ord; omega)))
    have hkb : k17 ≤ 1048577 := by have := HLl.out; omega
    clear hk17 hI17 HL16 HG16 HX16 HR16 x9
    go_wp2_with fail
    refine (markRawS_any rs _ n8 k17 w17 n8 n9 HR17.out (by have := HL17.out.size; have := HL17.out.ord; omega) (by have := HRl.out; omega)).mono ?_
    rintro e w18 ⟨rfl, hI18⟩
    have HL18 := hide (HL17.out.inr hI18 (.inr (.inl ⟨rfl, rfl⟩)))
    have HG18 := hide (HG17.out.same (hI18.sameIn (fun k g1 g2 => by have := HL17.out.ord; omega) (by have := HL17.out.size; omega)))
    clear hI18 HL17 HG17 HR17
    obtain ⟨k18, hk18⟩ : ∃ k18 : Nat, k17 + 2 * rs.length = k18 := ⟨_, rfl⟩
    rw [hk18]
    clear hk18 hkb HK17
    have hk0 : ¬ ((k18 : Int) < 0) := by omega
    have x11 := HL18.out.box11.cell 0 _ rfl
    have x8 := HL18.out.box8.cell 0 _ rfl
    go_wp2_with fail
    refine (HEq.out V w18 n9 n10 n4 n5 a10 c10 a5 c5 HG18.out.strs (by have := HL18.out.size; omega) HL18.out.s8 (by have := HL18.out.size; have := HL18.out.ord; omega)).mono ?_
    rintro e w19 ⟨rfl, hB19⟩
    have HL19 := hide (HL18.out.step hB19)
    have HG19 := hide (HG18.out.same (sameIn_below hB19 (by have := HL18.out.size; omega)))
    clear hB19 HL18 HG18 x11 x8 hk0
    have x11 := HL19.out.box11.cell 0 _ rfl
    go_wp2_with fail
    refine (markDisk_any V _ b10 w19 n9 n10 HG19.out (by have := HL19.out.size; omega) (by have := HVl.out; have := HLl.out; omega)).mono ?_
    rintro e w20 ⟨k20, rfl, hk20, hO20, hI20⟩
    have HK20 := hide hk20
    have HG20 := hide hO20
    have HL20 := hide (HL19.out.inr hI20 (.inr (.inr ⟨rfl, rfl⟩)))
    clear hk20 hO20 hI20 HL19 HG19 x11
    have x11 := HL20.out.box11.cell 0 _ rfl
    have hk0 : ¬ ((k20 : Int) < 0) := by omega
    have hkk : ((k20 : Int) != (k20 : Int)) = false := by simp
    go_wp2_with fail
    refine (heldDisk_any V _ k20 HK20.out w20 n9 n10 HG20.out.strs (by have := HL20.out.size; omega) (by have := HVl.out; have := HLl.out; omega)).mono ?_
    rintro e w21 ⟨rfl, hB21⟩
    have HL21 := hide (HL20.out.step hB21)
    have HG21 := hide (HG20.out.same (sameIn_below hB21 (by have := HL20.out.size; omega)))
    clear hB21 HL20 HG20 x11
    have x0 := HL21.out.q.cell 0 _ rfl
    go_wp2_with fail
    refine (HTo.out w21 HL21.out.below).mono ?_
    rintro e w22 ⟨a22, c22, rfl, ⟨_, hO22⟩, hB22⟩
    have HS22 := hide hO22.strs
    have HL22 := hide (HL21.out.step hB22)
    have HG22 := hide (HG21.out.same (sameIn_below hB22 (by have := HL21.out.size; omega)))
    clear hO22 hB22 HL21 HG21 x0
    go_wp2_with fail
    refine (HToR.out w22 HL22.out.below).mono ?_
    rintro e w23 ⟨a23, c23, rfl, hO23, hB23, hZ23⟩
    have HO23 := hide hO23
    have HS23 := hide (HS22.out.keep hB23 (Nat.le_refl _))
    have HZ23 := hide hZ23
    have HL23 := hide (HL22.out.step hB23)
    have HG23 := hide (HG22.out.same (sameIn_below hB23 (by have := HL22.out.size; omega)))
    clear hO23 hB23 hZ23 HL22 HG22 HS22
    go_wp2_with fail
    refine (HIm.out w23 _ _ _ _ a22 c22 a23 c23 _ HS23.out (by have := HZ23.out; omega) HO23.out HZ23.out).mono ?_
    rintro e w24 ⟨a24, c24, rfl, ⟨_, hO24⟩, hB24⟩
    have HS24 := hide hO24.strs
    have HL24 := hide (HL23.out.step hB24)
    have HG24 := hide (HG23.out.same (sameIn_below hB24 (by have := HL23.out.size; omega)))
    clear hO24 hB24 HL23 HG23 HS23 HO23 HZ23
    have y0 : ∀ o, (w24.alloc o).cell? ⟨n5, 0, none⟩ = some (.slice a5 V.length c5) := fun o => (HL24.out.box8.alloc o).cell 0 _ rfl
    have HAl : Hid (∀ o, Below w24.heap.size w24 (w24.alloc o)) := fun o => (Below.refl _ _).alloc (Nat.le_refl _) o
    go_wp2_with fail
    refine (HEq.out V _ w23.heap.size w24.heap.size n4 n5 a24 c24 a5 c5 (HS24.out.keep (HAl.out _) (Nat.le_refl _)) (HAl.out _).size (HL24.out.s8.keep (HAl.out _) (by have := HL24.out.size; have := HL24.out.ord; omega)) (by have := HL24.out.size; have := HL24.out.ord; have := (HAl.out (.cells #[.slice a24 V.length c24] 28)).size; omega)).mono ?_
    rintro e w26 ⟨rfl, hB26⟩
    have HB26 : Hid (Below w24.heap.size w24 w26) := (HAl.out _).trans (hB26.mono (HAl.out _).size)
    have HL26 := hide (HL24.out.step HB26.out)
    have HG26 := hide (HG24.out.same (sameIn_below HB26.out (by have := HL24.out.size; omega)))
    clear hB26 HL24 HG24 HB26 y0 HS24
    have x11 := HL26.out.box11.cell 0 _ rfl
    go_wp2_with fail
    refine (heldDisk_any V _ k20 HK20.out w26 n9 n10 HG26.out.strs (by have := HL26.out.size; omega) (by have := HVl.out; have := HLl.out; omega)).mono ?_
    rintro e w27 ⟨rfl, hB27⟩
    have HL27 := hide (HL26.out.step hB27)
    clear hB27 HL26 HG26 x11
    go_wp2_with fail
    go_ret
    exact ⟨rfl, HL27.out.below⟩

end Go.Proofs.Ytbimfljllclgfaa
