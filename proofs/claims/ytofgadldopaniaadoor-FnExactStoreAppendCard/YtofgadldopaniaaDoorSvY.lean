/- StoreAppend, by the program. -/
import Derived.Test.YtofgadldopaniaaDoorSvX
import Derived.Test.YtofgadldopaniaaDoorSvAv
import Derived.Test.YtofgadldopaniaaDoorSvHw
import Derived.Test.YtofgadldopaniaaDoorSvHg
import Derived.Deep.QuietTactic
import Derived.BigQuiet
namespace Go.Proofs.YtofgadldopaniaaDoor
open Go.RowKit

theorem SvB2.nextB {w : World} {a : Option Addr} {n cap : Nat} {gen : Int} {text : ByteArray} {next : Int} {W W' : World} {B : Nat} (h : SvB2 w a n cap gen text next W) (hb : Below B W W') (hB : w.heap.size + 2 ≤ B) : SvB2 w a n cap gen text next W' :=
  ⟨h.box.below hb (by omega), h.res.below hb (by omega), h.below.trans (hb.mono (by omega)), Nat.le_trans h.size hb.size⟩
theorem RwRow.keepB {W W' : World} {lo B : Nat} {v : Value} {l : List Rw} (h : RwRow W lo v l) (hb : Below B W W') (hB : ∀ k, v.ownBlock = some k → k < B) : RwRow W' lo v l :=
  ownsRow_same h fun g hg => hb.block g (hB g hg)

set_option maxHeartbeats 8000000 in
set_option maxRecDepth 100000 in
theorem implStoreAppend_any (B : Nat) (s : St) (gv : Value) (t : ByteArray) (w : World) (lo hi : Nat) (hT : Tab B w) (hB : B ≤ w.heap.size) (hv : StrsAt w lo hi gv s.groups) (hhi : hi ≤ w.heap.size) (hl : s.groups.length ≤ 1048576) (ht : s.text.size ≤ 1048576) (ht2 : t.size ≤ 1048576) :
    Calls Tryd.prog 14 #[stV s gv, .string t] w fun e w' => Out w (appendV s t) e w' := by
  have HOk := hide (fun W (h : Below w.heap.size w W) => isStore_any s gv W lo hi (hv.keep h hhi) (Nat.le_trans hhi h.size) hl ht)
  have HCp := hide (fun W (h : Below w.heap.size w W) => copyStore_row s gv W lo hi (hv.keep h hhi) (Nat.le_trans hhi h.size) hl)
  have HTb := hide (fun W (h : Below w.heap.size w W) => hT.keep (h.mono hB))
  have HGb := hide (fun W => groupBlocks_any t.size W ht2)
  obtain ⟨a, cap, rfl, _⟩ := id hv
  have HV : Hid (appendV s t = if okS s = true then if t.size ≤ 600 then if s.next + gbl t.size ≤ 12 then (groupV s.gen.toNat s.groups.length s.next.toNat t, ⟨s.gen, s.text, s.groups ++ [t], s.next + gbl t.size⟩, 0) else ([], s, 4) else ([], s, 6) else ([], zeroS, 1)) := rfl
  have HS := hide (okS_next s)
  have HWg := hide (withGroup_any s)
  obtain ⟨gen, text, groups, next⟩ := s
  have hl : groups.length ≤ 1048576 := hl
  have HA : Hid (∀ o1 o2, Below w.heap.size w ((w.alloc o1).alloc o2) ∧ w.heap.size + 2 ≤ ((w.alloc o1).alloc o2).heap.size) := fun o1 o2 => ⟨((Below.refl _ _).alloc (Nat.le_refl _) o1).alloc (by simp) o2, by simp⟩
  show Calls Tryd.prog 14 #[.agg #[.int .i64 gen, .string text, .slice a groups.length cap, .int .i64 next], .string t] w _
  generalize hVV : appendV ⟨gen, text, groups, next⟩ t = V at *
  clear hVV
  have hPre : ∀ W, W = (w.alloc (.cells #[.int .i64 gen, .string text, .slice a groups.length cap, .int .i64 next] 32)).alloc (.cells #[.int .i64 0, .string ⟨#[]⟩, .slice none 0 0, .int .i64 0] 32) → Below w.heap.size w W ∧ SvB2 w a groups.length cap gen text next W := fun W hW => by
    subst hW
    exact ⟨(HA.out _ _).1, (Blk.new _ _ _).alloc _, Blk.atn (by simp), (HA.out _ _).1, by simp⟩
  have HPre := hide hPre
  clear hPre HA hv hT
  cases hok : okS ⟨gen, text, groups, next⟩ with
  | false =>
    rw [hok] at HOk
    have hr : V = ([], zeroS, 1) := by rw [HV.out, hok]; rfl
    subst hr
    clear HV HCp HTb HS HWg HGb
    go_enter Tryd.func14, Tryd.ntmps14
    go_wp2_with fail
    generalize hW : (w.alloc (Obj.cells #[.int .i64 gen, .string text, .slice a groups.length cap, .int .i64 next] 32)).alloc (Obj.cells #[.int .i64 0, .string ⟨#[]⟩, .slice none 0 0, .int .i64 0] 32) = W
    obtain ⟨hBW, hX⟩ := HPre.out W hW.symm
    clear hW HPre
    refine (HOk.out W hBW).mono ?_
    rintro e w1 ⟨rfl, hB1⟩
    have hX1 := hX.next hB1
    have HX1 := hide hX1
    have y0 := hX1.res.cell 0 _ rfl
    have y1 := hX1.res.cell 1 _ rfl
    have y2 := hX1.res.cell 2 _ rfl
    have y3 := hX1.res.cell 3 _ rfl
    have g0 := hX1.res.frozen 0
    have g1 := hX1.res.frozen 1
    have g2 := hX1.res.frozen 2
    have g3 := hX1.res.frozen 3
    clear hX1 hX hB1 hBW HOk
    go_wp2_with fail
    refine bodyPost_ret (v := .tuple #[.slice none 0 0, .agg #[.int .i64 0, .string ⟨#[]⟩, .slice none 0 0, .int .i64 0], .int .i64 1]) (by simp [results, Tryd.results14, go_sem, y0, y1, y2, y3]) rfl ?_
    exact out_set (V := ([], zeroS, 1)) _ _ _ _ HX1.out.below HX1.out.size (RwRow.nil _ _) (StrRow.nil _ _) (fun k _ h => by simp [Value.ownBlock] at h) rfl
  | true =>
    rw [hok] at HOk
    obtain ⟨⟨hg1, hg2⟩, hn0, hn1⟩ := HS.out hok
    have hg1 : 1 ≤ gen := hg1
    have hg2 : gen ≤ 99999 := hg2
    have hn0 : 0 ≤ next := hn0
    have hn1 : next ≤ 12 := hn1
    have HV2 : Hid (V = if t.size ≤ 600 then if next + gbl t.size ≤ 12 then (groupV gen.toNat groups.length next.toNat t, ⟨gen, text, groups ++ [t], next + gbl t.size⟩, 0) else ([], ⟨gen, text, groups, next⟩, 4) else ([], ⟨gen, text, groups, next⟩, 6)) := by show _ = _; rw [HV.out, hok]; rfl
    clear HV HS hok
    have HCpT : Hid (∀ W, Below w.heap.size w W → Calls Tryd.prog 33 #[.agg #[.int .i64 gen, .string text, .slice a groups.length cap, .int .i64 next]] W fun e w' => ∃ a2 c2, e = .returned (.agg #[.int .i64 gen, .string text, .slice a2 groups.length c2, .int .i64 next]) ∧ StrRow w' W.heap.size (.slice a2 groups.length c2) groups ∧ Below W.heap.size W w') := fun W hW =>
      (HCp.out W hW).mono fun e w' ⟨v', h1, h2, h3⟩ => by
        obtain ⟨a2, c2, rfl⟩ := ownsRow_form h2
        exact ⟨a2, c2, h1, h2, h3⟩
    clear HCp
    go_enter Tryd.func14, Tryd.ntmps14
    go_wp2_with fail
    generalize hW : (w.alloc (Obj.cells #[.int .i64 gen, .string text, .slice a groups.length cap, .int .i64 next] 32)).alloc (Obj.cells #[.int .i64 0, .string ⟨#[]⟩, .slice none 0 0, .int .i64 0] 32) = W
    obtain ⟨hBW, hX⟩ := HPre.out W hW.symm
    clear hW HPre
    refine (HOk.out W hBW).mono ?_
    rintro e w1 ⟨rfl, hB1⟩
    have HX1 := hide (hX.next hB1)
    have x0 := HX1.out.box.cell 0 _ rfl
    have x1 := HX1.out.box.cell 1 _ rfl
    have x2 := HX1.out.box.cell 2 _ rfl
    have x3 := HX1.out.box.cell 3 _ rfl
    clear hX hB1 hBW HOk
    by_cases htt : t.size ≤ 600
    · have HV3 : Hid (V = if next + gbl t.size ≤ 12 then (groupV gen.toNat groups.length next.toNat t, ⟨gen, text, groups ++ [t], next + gbl t.size⟩, 0) else ([], ⟨gen, text, groups, next⟩, 4)) := by show _ = _; rw [HV2.out, if_pos htt]
      clear HV2
      have hgb : gbl t.size ≤ 11 := by unfold gbl; omega
      have HWg2 : Hid (∀ lo ga gc W, StrRow W lo (.slice ga groups.length gc) groups → lo ≤ W.heap.size → Calls Tryd.prog 36 #[.agg #[.int .i64 gen, .string text, .slice ga groups.length gc, .int .i64 next], .string t] W fun e w' => ∃ a2 c2, e = .returned (.agg #[.int .i64 gen, .string text, .slice a2 (groups ++ [t]).length c2, .int .i64 (next + gbl t.size)]) ∧ StrRow w' lo (.slice a2 (groups ++ [t]).length c2) (groups ++ [t]) ∧ Below lo W w' ∧ W.heap.size ≤ w'.heap.size) := fun lo ga gc W h1 h2 =>
        (HWg.out lo ga gc t W h1 h2 hl ht2 ⟨hn0, by show next ≤ 1000; omega⟩).mono fun e w' ⟨v', g1, g2, g3, g4⟩ => by
          obtain ⟨a2, c2, rfl⟩ := ownsRow_form g2
          exact ⟨a2, c2, g1, g2, g3, g4⟩
      clear HWg
      generalize hq : gbl t.size = q at *
      clear hq
      have hqn : ¬ ((next : Int) + q < 0) := by omega
      go_wp2_with fail
      have hwq : IntKind.i64.wrap (next + (q : Int)) = next + (q : Int) := by rw [IntKind.wrap_i64]; omega
      go_quiet ((go_at_call 34; exact Calls.quiet_of_same (HGb.out _)))
      by_cases hfit : next + q ≤ 12
      · have hr : V = (groupV gen.toNat groups.length next.toNat t, ⟨gen, text, groups ++ [t], next + q⟩, 0) := by rw [HV3.out, if_pos hfit]
        subst hr
        clear HV3
        have HGw : Hid (∀ W, Below w.heap.size w W → Calls Tryd.prog 35 #[.agg #[.int .i64 gen, .string text, .slice a groups.length cap, .int .i64 next], .string t] W fun e w' => ∃ v, e = .returned v ∧ RwRow w' W.heap.size v (groupV gen.toNat groups.length next.toNat t) ∧ Below W.heap.size W w') := fun W hW => by
          have := groupWrites_any B gen.toNat next.toNat text a groups.length cap t W (HTb.out W hW) (Nat.le_trans hB hW.size) (by omega) (by omega) (by omega) ht2
          have e1 : ((gen.toNat : Nat) : Int) = gen := by omega
          have e2 : ((next.toNat : Nat) : Int) = next := by omega
          rwa [e1, e2] at this
        clear HTb HGb
        have HX2 := hide (HX1.out.nextB (below_drewN (Below.refl w1.heap.size w1) nq) HX1.out.size)
        clear x0 x1 x2 x3 HX1
        generalize w1.drewN nq = W1 at *
        have x0 := HX2.out.box.cell 0 _ rfl
        have x1 := HX2.out.box.cell 1 _ rfl
        have x2 := HX2.out.box.cell 2 _ rfl
        have x3 := HX2.out.box.cell 3 _ rfl
        have HL : Hid ((groups ++ [t]).length = groups.length + 1) := by show _ = _; simp
        generalize hgt : groups ++ [t] = G at *
        have HGT := hide hgt
        clear hgt
        generalize hGV : groupV gen.toNat groups.length next.toNat t = L at *
        have HGV := hide hGV
        clear hGV
        go_wp2_with fail
        go_region_with (first
          | (go_at_call 36; refine (HWg2.out _ _ _ _ HR6.out HZ6.out).mono ?_; rintro e7 w7 ⟨a7, c7, rfl, hR7, hB7, hz7⟩; have HX7 := hide (HX6.out.nextB hB7 HX5.out.size); have HV7 := hide (RwRow.keepB HV6.out hB7 (fun k hk => HV5.out.lt k hk)); have HR7 := hide hR7; have y0 := HX7.out.res.cell 0 _ rfl; have y1 := HX7.out.res.cell 1 _ rfl; have y2 := HX7.out.res.cell 2 _ rfl; have y3 := HX7.out.res.cell 3 _ rfl; have g0 := HX7.out.res.frozen 0; have g1 := HX7.out.res.frozen 1; have g2 := HX7.out.res.frozen 2; have g3 := HX7.out.res.frozen 3; clear hR7 hB7 hz7)
          | (go_at_call 33; refine (HCpT.out _ HX5.out.below).mono ?_; rintro e6 w6 ⟨a6, c6, rfl, hR6, hB6⟩; have HX6 := hide (HX5.out.next hB6); have HV6 := hide (RwRow.keep HV5.out hB6); have HR6 := hide hR6; have HZ6 := hide hB6.size; clear hR6 hB6)
          | (go_at_call 35; refine (HGw.out _ HX2.out.drew.below).mono ?_; rintro e5 w5 ⟨v5, rfl, hR5, hB5⟩; have HX5 := hide (HX2.out.drew.next hB5); have HV5 := hide (RwRow.base hR5 HX2.out.drew.size); have z0 := HX5.out.box.cell 0 _ rfl; have z1 := HX5.out.box.cell 1 _ rfl; have z2 := HX5.out.box.cell 2 _ rfl; have z3 := HX5.out.box.cell 3 _ rfl; clear hR5 hB5))
        all_goals
          go_wp2_with fail
          refine bodyPost_ret (v := .tuple #[v5, .agg #[.int .i64 gen, .string text, .slice a7 G.length c7, .int .i64 (next + q)], .int .i64 0]) (by simp [results, Tryd.results14, go_sem, y0, y1, y2, y3]) rfl ?_
          rw [HGT.out, HGV.out]
          refine out_set (V := (L, ⟨gen, text, G, next + q⟩, 0)) _ _ _ _ HX7.out.below HX7.out.size HV7.out (HR7.out.base HX5.out.size) (fun k h h2 => ?_) rfl
          have h4 := row_base HR7.out k h2
          have h5 := HV5.out.lt k h
          omega
      · have hr : V = ([], ⟨gen, text, groups, next⟩, 4) := by rw [HV3.out, if_neg hfit]
        subst hr
        clear HV3 HTb HGb HWg2
        have HX2 := hide (HX1.out.nextB (below_drewN (Below.refl w1.heap.size w1) nq) HX1.out.size)
        clear x0 x1 x2 x3 HX1
        generalize w1.drewN nq = W1 at *
        have x0 := HX2.out.box.cell 0 _ rfl
        have x1 := HX2.out.box.cell 1 _ rfl
        have x2 := HX2.out.box.cell 2 _ rfl
        have x3 := HX2.out.box.cell 3 _ rfl
        go_wp2_with (go_at_call 33; refine (HCpT.out _ HX2.out.below).mono ?_; rintro e3 w3 ⟨a2, c2, rfl, hR3, hB3⟩; have HX3 := hide (HX2.out.next hB3); have HR3 := hide (hR3.base HX2.out.size); have y0 := HX3.out.res.cell 0 _ rfl; have y1 := HX3.out.res.cell 1 _ rfl; have y2 := HX3.out.res.cell 2 _ rfl; have y3 := HX3.out.res.cell 3 _ rfl; have g0 := HX3.out.res.frozen 0; have g1 := HX3.out.res.frozen 1; have g2 := HX3.out.res.frozen 2; have g3 := HX3.out.res.frozen 3; clear hR3 hB3)
        refine bodyPost_ret (v := .tuple #[.slice none 0 0, .agg #[.int .i64 gen, .string text, .slice a2 groups.length c2, .int .i64 next], .int .i64 4]) (by simp [results, Tryd.results14, go_sem, y0, y1, y2, y3]) rfl ?_
        exact out_set (V := ([], ⟨gen, text, groups, next⟩, 4)) _ _ _ _ HX3.out.below HX3.out.size (RwRow.nil _ _) HR3.out (fun k h => by simp [Value.ownBlock] at h) rfl
    · have hr : V = ([], ⟨gen, text, groups, next⟩, 6) := by rw [HV2.out, if_neg htt]
      subst hr
      clear HV2
      go_wp2_with (go_at_call 33; refine (HCpT.out _ HX1.out.below).mono ?_; rintro e3 w3 ⟨a2, c2, rfl, hR3, hB3⟩; have HX3 := hide (HX1.out.next hB3); have HR3 := hide (hR3.base HX1.out.size); have y0 := HX3.out.res.cell 0 _ rfl; have y1 := HX3.out.res.cell 1 _ rfl; have y2 := HX3.out.res.cell 2 _ rfl; have y3 := HX3.out.res.cell 3 _ rfl; have g0 := HX3.out.res.frozen 0; have g1 := HX3.out.res.frozen 1; have g2 := HX3.out.res.frozen 2; have g3 := HX3.out.res.frozen 3; clear hR3 hB3)
      refine bodyPost_ret (v := .tuple #[.slice none 0 0, .agg #[.int .i64 gen, .string text, .slice a2 groups.length c2, .int .i64 next], .int .i64 6]) (by simp [results, Tryd.results14, go_sem, y0, y1, y2, y3]) rfl ?_
      exact out_set (V := ([], ⟨gen, text, groups, next⟩, 6)) _ _ _ _ HX3.out.below HX3.out.size (RwRow.nil _ _) HR3.out (fun k h => by simp [Value.ownBlock] at h) rfl

end Go.Proofs.YtofgadldopaniaaDoor
