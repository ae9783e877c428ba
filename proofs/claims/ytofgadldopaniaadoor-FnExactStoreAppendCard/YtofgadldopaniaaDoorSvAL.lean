/- The law FnExactStoreAppend: it returns true, whatever store and text it is called with. -/
import Derived.Test.YtofgadldopaniaaDoorSvLg
import Derived.Test.YtofgadldopaniaaDoorSvY
import Derived.Test.YtofgadldopaniaaDoorSvZ
import Derived.Deep.QuietTactic
import Derived.BigQuiet
import Derived.Deep.RegionWith
import Derived.Deep.CutRange
namespace Go.Proofs.YtofgadldopaniaaDoor
open Go.RowKit

set_option maxHeartbeats 16000000 in
set_option maxRecDepth 100000 in
theorem lawStoreAppend_any (s : St) (gv : Value) (t : ByteArray) (w : World) (lo hi : Nat) (hv : StrsAt w lo hi gv s.groups) (hhi : hi ≤ w.heap.size) (hts : s.text.size ≤ maxLen) (hT : Tab w.heap.size w) :
    Calls Tryd.prog 4 #[stV s gv, .string t] w fun e w' => e = .returned (.bool true) ∧ Below w.heap.size w w' := by
  have HB0 : Hid (∀ o, Below w.heap.size w (w.alloc o)) := fun o => (Below.refl _ _).alloc (Nat.le_refl _) o
  by_cases hts2 : t.size ≤ 1048576
  · have HSz : Hid (∀ W, Below w.heap.size w W → Calls Tryd.prog 11 #[stV s gv, .int .i64 1048576] W fun e w' => e = .returned (.int .i64 (szS s 1048576)) ∧ Below W.heap.size W w') := fun W hb => szStore_any s gv W lo hi (hv.keep hb hhi) (Nat.le_trans hhi hb.size) hts
    have HFit := hide (szS_fits s)
    have HTo : Hid (0 ≤ szS s 1048576 → ∀ W, Below w.heap.size w W → Calls Tryd.prog 13 #[stV s gv] W fun e w' => ∃ a c b, e = .returned (stV s (.slice a s.groups.length c)) ∧ OwnStrs w' W.heap.size w'.heap.size b (.slice a s.groups.length c) s.groups ∧ Below W.heap.size W w') := fun hz W hb =>
      toStore_any s gv W lo hi (hv.keep hb hhi) (Nat.le_trans hhi hb.size) (HFit.out hz).2
    have HSp : Hid (0 ≤ szS s 1048576 → ∀ W a c lo hi, StrsAt W lo hi (.slice a s.groups.length c) s.groups → hi ≤ W.heap.size → Calls Tryd.prog 12 #[stV s (.slice a s.groups.length c), .string t] W fun e w' => Outs W (appendV s t).1 (appendV s t).2.1.gen (appendV s t).2.1.text (appendV s t).2.1.groups (appendV s t).2.1.next (appendV s t).2.2 e w') := fun hz W a c lo hi h1 h2 =>
      (specStoreAppend_any s _ t W lo hi h1 h2 (HFit.out hz).2 (HFit.out hz).1 hts2).mono fun e w' h => h.outs (appendV_sizes s t (HFit.out hz).2 hts2) (appendV_len s t (HFit.out hz).2).1 (appendV_grp s t (by obtain ⟨_, _, _, _, q, _⟩ := hv; exact q) hts2)
    have HIm : Hid (0 ≤ szS s 1048576 → ∀ W a c lo hi, Below w.heap.size w W → StrsAt W lo hi (.slice a s.groups.length c) s.groups → hi ≤ W.heap.size → Calls Tryd.prog 14 #[stV s (.slice a s.groups.length c), .string t] W fun e w' => Outs W (appendV s t).1 (appendV s t).2.1.gen (appendV s t).2.1.text (appendV s t).2.1.groups (appendV s t).2.1.next (appendV s t).2.2 e w') := fun hz W a c lo hi h0 h1 h2 =>
      (implStoreAppend_any w.heap.size s _ t W lo hi (hT.keep h0) h0.size h1 h2 (HFit.out hz).2 (HFit.out hz).1 hts2).mono fun e w' h => h.outs (appendV_sizes s t (HFit.out hz).2 hts2) (appendV_len s t (HFit.out hz).2).1 (appendV_grp s t (by obtain ⟨_, _, _, _, q, _⟩ := hv; exact q) hts2)
    have HLen : Hid (0 ≤ szS s 1048576 → (appendV s t).1.length ≤ 1000000 ∧ (appendV s t).2.1.groups.length ≤ 1048577 ∧ s.groups.length ≤ 1048576) := fun hz => ⟨(appendV_len s t (HFit.out hz).2).2.1 hts2, (appendV_len s t (HFit.out hz).2).2.2, (HFit.out hz).2⟩
    obtain ⟨va, vc, rfl, _⟩ := hv
    generalize szS s 1048576 = sz at *
    generalize appendV s t = V at *
    obtain ⟨R, ⟨gn, tx, gs, nx⟩, cd⟩ := V
    have HEqR : Hid (∀ W lo1 hi1 lo2 hi2 a c a2 c2, RwsAt W lo1 hi1 (.slice a R.length c) R → hi1 ≤ W.heap.size → RwsAt W lo2 hi2 (.slice a2 R.length c2) R → hi2 ≤ W.heap.size → Calls Tryd.prog 8 #[.slice a R.length c, .slice a2 R.length c2] W fun e w' => e = .returned (.bool true) ∧ Below W.heap.size W w') :=
      fun W lo1 hi1 lo2 hi2 a c a2 c2 h1 h2 h3 h4 => eqRawS_any R _ _ W lo1 hi1 lo2 hi2 h1 h3 h2 h4
    have HEqS : Hid (∀ W lo1 hi1 lo2 hi2 a c a2 c2, StrsAt W lo1 hi1 (.slice a gs.length c) gs → hi1 ≤ W.heap.size → StrsAt W lo2 hi2 (.slice a2 gs.length c2) gs → hi2 ≤ W.heap.size → Calls Tryd.prog 15 #[.agg #[.int .i64 gn, .string tx, .slice a gs.length c, .int .i64 nx], .agg #[.int .i64 gn, .string tx, .slice a2 gs.length c2, .int .i64 nx]] W fun e w' => e = .returned (.bool true) ∧ Below W.heap.size W w') :=
      fun W lo1 hi1 lo2 hi2 a c a2 c2 h1 h2 h3 h4 => eqStore_any ⟨gn, tx, gs, nx⟩ _ _ W lo1 hi1 lo2 hi2 h1 h3 h2 h4
    have HMkR : Hid (R.length ≤ 1000000 → ∀ W a c b, OwRws W b (b + 1) b (.slice a R.length c) R → b < W.heap.size → Calls Tryd.prog 9 #[.slice a R.length c, .int .i64 1] W fun e w' => ∃ n : Nat, e = .returned (.int .i64 (n : Int)) ∧ n = 1 + 2 * R.length ∧ RwsAt w' b (b + 1) (.slice a R.length c) (markK gR cR R 1) ∧ InR b (b + 1) W w') :=
      fun hl W a c b h1 h2 => (markRawS_own R _ b 1 W b (b + 1) h1 h2 (by omega)).mono fun e w' ⟨g1, g2, g3⟩ => ⟨_, g1, rfl, g2.rws, g3⟩
    have HHdR : Hid (R.length ≤ 1000000 → ∀ W lo hi a c (n : Nat), n = 1 + 2 * R.length → RwsAt W lo hi (.slice a R.length c) (markK gR cR R 1) → hi ≤ W.heap.size → Calls Tryd.prog 10 #[.slice a R.length c, .int .i64 1] W fun e w' => e = .returned (.int .i64 (n : Int)) ∧ Below W.heap.size W w') :=
      fun hl W lo hi a c n hn h1 h2 => by subst hn; exact heldRawS_any R _ 1 W lo hi h1 h2 (by omega)
    have HMkS : Hid (gs.length ≤ 1048577 → ∀ W a c b (k : Nat), OwnStrs W b (b + 1) b (.slice a gs.length c) gs → b < W.heap.size → 0 < k → k ≤ 3000000 → Calls Tryd.prog 16 #[.agg #[.int .i64 gn, .string tx, .slice a gs.length c, .int .i64 nx], .int .i64 (k : Int)] W fun e w' => ∃ n : Nat, e = .returned (.int .i64 (n : Int)) ∧ n = k + gs.length ∧ StrsAt w' b (b + 1) (.slice a gs.length c) (markL k gs) ∧ InR b (b + 1) W w') :=
      fun hl W a c b k h1 h2 h3 h4 => (markStore_any ⟨gn, tx, gs, nx⟩ _ b k W b (b + 1) h1 h2 h3 (show k + gs.length ≤ _ by omega)).mono fun e w' ⟨n, g1, g2, g3, g4⟩ => ⟨n, g1, g2, g3.strs, g4⟩
    have HHdS : Hid (gs.length ≤ 1048577 → ∀ W lo hi a c (k n : Nat), n = k + gs.length → StrsAt W lo hi (.slice a gs.length c) (markL k gs) → hi ≤ W.heap.size → 0 < k → k ≤ 3000000 → Calls Tryd.prog 17 #[.agg #[.int .i64 gn, .string tx, .slice a gs.length c, .int .i64 nx], .int .i64 (k : Int)] W fun e w' => e = .returned (.int .i64 (n : Int)) ∧ Below W.heap.size W w') :=
      fun hl W lo hi a c k n hn h1 h2 h3 h4 => heldStore_any ⟨gn, tx, gs, nx⟩ _ k n hn W lo hi h1 h2 h3 (show k + gs.length ≤ _ by omega)
    have HEqA : Hid (∀ W lo1 hi1 lo2 hi2 a c a2 c2, StrsAt W lo1 hi1 (.slice a s.groups.length c) s.groups → hi1 ≤ W.heap.size → StrsAt W lo2 hi2 (.slice a2 s.groups.length c2) s.groups → hi2 ≤ W.heap.size → Calls Tryd.prog 15 #[stV s (.slice a s.groups.length c), stV s (.slice a2 s.groups.length c2)] W fun e w' => e = .returned (.bool true) ∧ Below W.heap.size W w') :=
      fun W lo1 hi1 lo2 hi2 a c a2 c2 h1 h2 h3 h4 => eqStore_any s _ _ W lo1 hi1 lo2 hi2 h1 h3 h2 h4
    have HMkA : Hid (s.groups.length ≤ 1048576 → ∀ W lo hi a c b, OwnStrs W lo hi b (.slice a s.groups.length c) s.groups → hi ≤ W.heap.size → Calls Tryd.prog 16 #[stV s (.slice a s.groups.length c), .int .i64 1] W fun e w' => ∃ n : Nat, e = .returned (.int .i64 (n : Int)) ∧ InR lo hi W w') :=
      fun hl W lo hi a c b h1 h2 => (markStore_any s _ b 1 W lo hi h1 h2 (by omega) (by omega)).mono fun e w' ⟨n, g1, g2, g3, g4⟩ => ⟨n, g1, g4⟩
    obtain ⟨gen, text, groups, next⟩ := s
    have hcd : (cd != cd) = false := by simp
    show Calls Tryd.prog 4 #[.agg #[.int .i64 gen, .string text, .slice va groups.length vc, .int .i64 next], .string t] w _
    go_enter Tryd.func4, Tryd.ntmps4
    go_wp2_with fail
    generalize hW0 : w.alloc (Obj.cells #[.int .i64 gen, .string text, .slice va groups.length vc, .int .i64 next] 30) = W0
    have HW0 : Hid (Below w.heap.size w W0 ∧ Blk W0 w.heap.size #[.int .i64 gen, .string text, .slice va groups.length vc, .int .i64 next] 30 ∧ w.heap.size < W0.heap.size) := by
      subst hW0
      exact ⟨HB0.out _, Blk.new w _ _, by simp⟩
    clear hW0 HB0
    refine (HSz.out W0 HW0.out.1).mono ?_
    rintro e w1 ⟨rfl, hB1⟩
    have HB1 : Hid (Below w.heap.size w w1) := HW0.out.1.trans (hB1.mono HW0.out.1.size)
    have HQ1 : Hid (Blk w1 w.heap.size #[.int .i64 gen, .string text, .slice va groups.length vc, .int .i64 next] 30) := HW0.out.2.1.below hB1 HW0.out.2.2
    clear hB1 HSz HW0
    by_cases hz : sz < 0
    · go_wp2_with fail
      go_ret
      exact ⟨rfl, HB1.out⟩
    have HTo := hide (HTo.out (by omega))
    have HSp := hide (HSp.out (by omega))
    have HIm := hide (HIm.out (by omega))
    have HLen := hide (HLen.out (by omega))
    have HMkR := hide (HMkR.out HLen.out.1)
    have HHdR := hide (HHdR.out HLen.out.1)
    have HMkS := hide (HMkS.out HLen.out.2.1)
    have HHdS := hide (HHdS.out HLen.out.2.1)
    have HMkA := hide (HMkA.out HLen.out.2.2)
    have x0 := HQ1.out.cell 0 _ rfl
    have x1 := HQ1.out.cell 1 _ rfl
    have x2 := HQ1.out.cell 2 _ rfl
    have x3 := HQ1.out.cell 3 _ rfl
    go_wp2_with fail
    refine (HTo.out w1 HB1.out).mono ?_
    rintro e w2 ⟨a2, c2, b2, rfl, hO2, hB2⟩
    have HS2 := hide hO2.strs
    have HB2 : Hid (Below w.heap.size w w2) := HB1.out.trans (hB2.mono HB1.out.size)
    have HQ2 : Hid (Blk w2 w.heap.size #[.int .i64 gen, .string text, .slice va groups.length vc, .int .i64 next] 30) := HQ1.out.below hB2 HQ1.out.lt
    clear hO2 hB2 HQ1 x0 x1 x2 x3
    go_wp2_with fail
    refine (HSp.out w2 a2 c2 _ _ HS2.out (Nat.le_refl _)).mono ?_
    rintro e w3 ⟨a3, c3, ga3, gc3, bR3, bG3, rfl, hR3, hG3, hne3, hbR3, hbG3, hB3⟩
    have HR3 : Hid (RwsAt w3 w2.heap.size w3.heap.size (.slice a3 R.length c3) R) := hR3.rws.wide (by omega) (by omega)
    have HG3 : Hid (StrsAt w3 w2.heap.size w3.heap.size (.slice ga3 gs.length gc3) gs) := hG3.strs.wide (by omega) (by omega)
    have HB3 : Hid (Below w.heap.size w w3) := HB2.out.trans (hB3.mono HB2.out.size)
    have HQ3 : Hid (Blk w3 w.heap.size #[.int .i64 gen, .string text, .slice va groups.length vc, .int .i64 next] 30) := HQ2.out.below hB3 HQ2.out.lt
    have HZ3 : Hid (w.heap.size < w2.heap.size ∧ w2.heap.size ≤ w3.heap.size) := ⟨HQ2.out.lt, hB3.size⟩
    clear hR3 hG3 hne3 hbR3 hbG3 hB3 HQ2 HS2 HSp
    have x0 : ∀ o, (w3.alloc o).cell? ⟨w.heap.size, 0, none⟩ = some (.int .i64 gen) := fun o => (HQ3.out.alloc o).cell 0 _ rfl
    have x1 : ∀ o, (w3.alloc o).cell? ⟨w.heap.size, 1, none⟩ = some (.string text) := fun o => (HQ3.out.alloc o).cell 1 _ rfl
    have x2 : ∀ o, (w3.alloc o).cell? ⟨w.heap.size, 2, none⟩ = some (.slice va groups.length vc) := fun o => (HQ3.out.alloc o).cell 2 _ rfl
    have x3 : ∀ o, (w3.alloc o).cell? ⟨w.heap.size, 3, none⟩ = some (.int .i64 next) := fun o => (HQ3.out.alloc o).cell 3 _ rfl
    go_wp2_with fail
    generalize hW4 : w3.alloc (Obj.cells #[.int .i64 gn, .string tx, .slice ga3 gs.length gc3, .int .i64 nx] 32) = W4
    have HW4 : Hid (Below w3.heap.size w3 W4 ∧ Blk W4 w3.heap.size #[.int .i64 gn, .string tx, .slice ga3 gs.length gc3, .int .i64 nx] 32 ∧ W4.heap.size = w3.heap.size + 1) := by
      subst hW4
      exact ⟨(Below.refl _ _).alloc (Nat.le_refl _) _, Blk.new _ _ _, by simp⟩
    clear hW4 x0 x1 x2 x3
    refine (HTo.out W4 (HB3.out.trans (HW4.out.1.mono HB3.out.size))).mono ?_
    rintro e w5 ⟨a5, c5, b5, rfl, hO5, hB5⟩
    have HO5 := hide hO5
    have HB5 := hide hB5
    have HS5 := hide hO5.strs
    clear hO5 hB5
    go_wp2_with fail
    generalize hW6 : w5.alloc (Obj.cells #[.int .i64 gen, .string text, .slice a5 groups.length c5, .int .i64 next] 32) = W6
    have HW6 : Hid (Below w5.heap.size w5 W6 ∧ Blk W6 w5.heap.size #[.int .i64 gen, .string text, .slice a5 groups.length c5, .int .i64 next] 32 ∧ W6.heap.size = w5.heap.size + 1) := by
      subst hW6
      exact ⟨(Below.refl _ _).alloc (Nat.le_refl _) _, Blk.new _ _ _, by simp⟩
    clear hW6
    have HB36 : Hid (Below w3.heap.size w3 W6) := by
      have h1 := HW4.out.1.size
      exact (HW4.out.1.trans (HB5.out.mono h1)).trans (HW6.out.1.mono (Nat.le_trans h1 HB5.out.size))
    refine (HIm.out W6 a5 c5 W4.heap.size w5.heap.size (HB3.out.trans (HB36.out.mono HB3.out.size)) (HS5.out.keep HW6.out.1 (Nat.le_refl _)) (by rw [HW6.out.2.2]; omega)).mono ?_
    rintro e w7 ⟨a7, c7, ga7, gc7, bR, bG, rfl, hR7, hG7, hne, hbR, hbG, hB7⟩
    have HR7 := hide hR7
    have HG7 := hide hG7
    have HNe := hide (And.intro hne (And.intro hbR hbG))
    have HB7 := hide hB7
    clear hR7 hG7 hne hbR hbG hB7
    go_wp2_with fail
    generalize hW8 : w7.alloc (Obj.cells #[.int .i64 gn, .string tx, .slice ga7 gs.length gc7, .int .i64 nx] 32) = W8
    have HW8 : Hid (Below w7.heap.size w7 W8 ∧ Blk W8 w7.heap.size #[.int .i64 gn, .string tx, .slice ga7 gs.length gc7, .int .i64 nx] 32 ∧ W8.heap.size = w7.heap.size + 1) := by
      subst hW8
      exact ⟨(Below.refl _ _).alloc (Nat.le_refl _) _, Blk.new _ _ _, by simp⟩
    clear hW8
    have HL8 : Hid (Lg w #[.int .i64 gen, .string text, .slice va groups.length vc, .int .i64 next] #[.int .i64 gn, .string tx, .slice ga3 gs.length gc3, .int .i64 nx] #[.int .i64 gen, .string text, .slice a5 groups.length c5, .int .i64 next] #[.int .i64 gn, .string tx, .slice ga7 gs.length gc7, .int .i64 nx] R gs (.slice a3 R.length c3) (.slice ga3 gs.length gc3) w2.heap.size w3.heap.size w3.heap.size W4.heap.size w5.heap.size w5.heap.size W6.heap.size w7.heap.size w7.heap.size W8) := by
      have z4 := HW4.out.2.2
      have z5 := HB5.out.size
      have z6 := HW6.out.2.2
      have z7 := HB7.out.size
      have z3 := HZ3.out
      have b68 : Below W6.heap.size W6 W8 := HB7.out.trans (HW8.out.1.mono z7)
      have b38 : Below w3.heap.size w3 W8 := HB36.out.trans (b68.mono HB36.out.size)
      have b58 : Below w5.heap.size w5 W8 := HW6.out.1.trans (b68.mono (by omega))
      have b48 : Below W4.heap.size W4 W8 := HB5.out.trans (b58.mono z5)
      exact ⟨HB3.out.trans (b38.mono HB3.out.size), HQ3.out.below b38 HQ3.out.lt, HW4.out.2.1.below b48 HW4.out.2.1.lt, HR3.out.keep b38 (Nat.le_refl _), HG3.out.keep b38 (Nat.le_refl _), HW6.out.2.1.below b68 HW6.out.2.1.lt, HW8.out.2.1, by omega⟩
    have HR8 := hide (HR7.out.one HW8.out.1 HNe.out.2.1.2)
    have HG8 := hide (HG7.out.one HW8.out.1 HNe.out.2.2.2)
    have HO8 : Hid (OwnStrs W8 W4.heap.size w5.heap.size b5 (.slice a5 groups.length c5) groups) := HO5.out.same (sameIn_below (HW6.out.1.trans ((HB7.out.trans (HW8.out.1.mono HB7.out.size)).mono HW6.out.1.size)) (Nat.le_refl _))
    have HZ : Hid (bR < w7.heap.size ∧ bG < w7.heap.size ∧ bR ≠ bG ∧ W6.heap.size ≤ bR ∧ W6.heap.size ≤ bG ∧ w7.heap.size < W8.heap.size) := ⟨HNe.out.2.1.2, HNe.out.2.2.2, HNe.out.1, HNe.out.2.1.1, HNe.out.2.2.1, by rw [HW8.out.2.2]; omega⟩
    have HOrd := hide HL8.out.ord
    clear HW8 HR7 HG7 HB7 HW6 HW4 HB5 HO5 HS5 HB36 HR3 HG3 HQ3 HB3 HNe HZ3 HB1 HB2
    -- the answers are compared
    refine (HEqR.out W8 _ _ _ _ a7 c7 a3 c3 HR8.out.rws (by have := HZ.out; omega) HL8.out.rw7 (by have := HL8.out.size; have := HOrd.out; omega)).mono ?_
    rintro e w9 ⟨rfl, hB9⟩
    have HL9 := hide (HL8.out.step hB9)
    have HR9 := hide (HR8.out.one hB9 (by have := HZ.out; omega))
    have HG9 := hide (HG8.out.one hB9 (by have := HZ.out; omega))
    have HO9 := hide (HO8.out.same (sameIn_below hB9 (by have := HL8.out.size; have := HOrd.out; omega)))
    have u0 := HL9.out.box11.cell 0 _ rfl
    have u1 := HL9.out.box11.cell 1 _ rfl
    have u2 := HL9.out.box11.cell 2 _ rfl
    have u3 := HL9.out.box11.cell 3 _ rfl
    have v0 := HL9.out.box7.cell 0 _ rfl
    have v1 := HL9.out.box7.cell 1 _ rfl
    have v2 := HL9.out.box7.cell 2 _ rfl
    have v3 := HL9.out.box7.cell 3 _ rfl
    clear hB9 HL8 HR8 HG8 HO8
    go_wp2_with fail
    refine (HEqS.out w9 _ _ _ _ ga7 gc7 ga3 gc3 HG9.out.strs (by have := HZ.out; have := HL9.out.size; omega) HL9.out.s7 (by have := HL9.out.size; have := HOrd.out; omega)).mono ?_
    rintro e w10 ⟨rfl, hB10⟩
    have HL10 := hide (HL9.out.step hB10)
    have HR10 := hide (HR9.out.one hB10 (by have := HZ.out; have := HL9.out.size; omega))
    have HG10 := hide (HG9.out.one hB10 (by have := HZ.out; have := HL9.out.size; omega))
    have HO10 := hide (HO9.out.same (sameIn_below hB10 (by have := HL9.out.size; have := HOrd.out; omega)))
    clear hB10 HL9 HR9 HG9 HO9 u0 u1 u2 u3 v0 v1 v2 v3
    -- the argument is as it was
    have x0 := HL10.out.q.cell 0 _ rfl
    have x1 := HL10.out.q.cell 1 _ rfl
    have x2 := HL10.out.q.cell 2 _ rfl
    have x3 := HL10.out.q.cell 3 _ rfl
    have y0 := HL10.out.box9.cell 0 _ rfl
    have y1 := HL10.out.box9.cell 1 _ rfl
    have y2 := HL10.out.box9.cell 2 _ rfl
    have y3 := HL10.out.box9.cell 3 _ rfl
    have HTo10 : Hid (∀ W, Below w10.heap.size w10 W → Calls Tryd.prog 13 #[.agg #[.int .i64 gen, .string text, .slice va groups.length vc, .int .i64 next]] W fun e w' => ∃ a c, e = .returned (.agg #[.int .i64 gen, .string text, .slice a groups.length c, .int .i64 next]) ∧ StrsAt w' W.heap.size w'.heap.size (.slice a groups.length c) groups ∧ Below w10.heap.size w10 w') := fun W hb =>
      (HTo.out W (HL10.out.below.trans (hb.mono HL10.out.below.size))).mono fun e w' ⟨a, c, b, h1, h2, h3⟩ => ⟨a, c, h1, h2.strs, hb.trans (h3.mono hb.size)⟩
    have HEq10 : Hid (∀ W lo2 a c, Below w10.heap.size w10 W → StrsAt W lo2 W.heap.size (.slice a groups.length c) groups → Calls Tryd.prog 15 #[.agg #[.int .i64 gen, .string text, .slice a5 groups.length c5, .int .i64 next], .agg #[.int .i64 gen, .string text, .slice a groups.length c, .int .i64 next]] W fun e w' => e = .returned (.bool true) ∧ Below w10.heap.size w10 w') := fun W lo2 a c hb hr =>
      (HEqA.out W W4.heap.size w5.heap.size lo2 W.heap.size a5 c5 a c (HO10.out.strs.keep hb (by have := HL10.out.size; have := HOrd.out; omega)) (by have := HL10.out.size; have := HOrd.out; have := hb.size; omega) hr (Nat.le_refl _)).mono fun e w' ⟨h1, h2⟩ => ⟨h1, hb.trans (h2.mono hb.size)⟩
    have HPP : Hid (∀ W, Below w10.heap.size w10 W → W.cell? ⟨w5.heap.size, 0, none⟩ = some (.int .i64 gen) ∧ W.cell? ⟨w5.heap.size, 1, none⟩ = some (.string text) ∧ W.cell? ⟨w5.heap.size, 2, none⟩ = some (.slice a5 groups.length c5) ∧ W.cell? ⟨w5.heap.size, 3, none⟩ = some (.int .i64 next)) := fun W hb => by
      have q := HL10.out.box9.below hb HL10.out.box9.lt
      exact ⟨q.cell 0 _ rfl, q.cell 1 _ rfl, q.cell 2 _ rfl, q.cell 3 _ rfl⟩
    go_wp2_with fail
    go_cut [63] from 59 to 63 (fun x wx => x = .bool false ∧ Hid (Below w10.heap.size w10 wx))
    case first =>
      go_region_with (first
        | (go_at_call 13
           refine (HTo10.out _ (by first | exact (Below.refl _ _).drew | exact Below.refl _ _)).mono ?_
           rintro e w11 ⟨a11, c11, rfl, hR11, hB11⟩
           have HR11 := hide hR11
           have HB11 := hide hB11
           obtain ⟨z0, z1, z2, z3⟩ := HPP.out w11 hB11
           clear hR11 hB11)
        | (go_at_call 15
           refine (HEq10.out _ _ _ _ HB11.out HR11.out).mono ?_
           rintro e w12 ⟨rfl, hB12⟩
           have HB12 := hide hB12
           clear hB12))
      all_goals
        go_wp2_with fail
        go_meet
        exact ⟨rfl, HB12⟩
    case rest =>
      obtain ⟨rfl, HB12⟩ := hcut
      rename_i w12
      have HL12 := hide (HL10.out.step HB12.out)
      have HR12 := hide (HR10.out.one HB12.out (by have := HZ.out; have := HL10.out.size; omega))
      have HG12 := hide (HG10.out.one HB12.out (by have := HZ.out; have := HL10.out.size; omega))
      have HO12 := hide (HO10.out.same (sameIn_below HB12.out (by have := HL10.out.size; have := HOrd.out; omega)))
      clear x0 x1 x2 x3 y0 y1 y2 y3 HTo10 HEq10 HPP HL10 HR10 HG10 HO10
      have y0 := HL12.out.box9.cell 0 _ rfl
      have y1 := HL12.out.box9.cell 1 _ rfl
      have y2 := HL12.out.box9.cell 2 _ rfl
      have y3 := HL12.out.box9.cell 3 _ rfl
      go_wp2_with fail
      refine (HMkA.out wc _ _ a5 c5 b5 HO12.out (by have := HL12.out.size; have := HOrd.out; omega)).mono ?_
      rintro e w13 ⟨n1, rfl, hI13⟩
      have HL13 := hide (HL12.out.inr hI13 (.inl ⟨Nat.le_refl _, Nat.le_refl _⟩))
      have HR13 := hide (HR12.out.same (hI13.sameIn (fun k g1 g2 => by have := HZ.out; have := HOrd.out; omega) (by have := HZ.out; have := HL12.out.size; omega)))
      have HG13 := hide (HG12.out.same (hI13.sameIn (fun k g1 g2 => by have := HZ.out; have := HOrd.out; omega) (by have := HZ.out; have := HL12.out.size; omega)))
      have hn1 : ¬ ((n1 : Int) < 0) := by omega
      clear hI13 y0 y1 y2 y3 HL12 HR12 HG12 HO12
      go_wp2_with fail
      refine (HEqR.out w13 _ _ _ _ a7 c7 a3 c3 HR13.out.rws (by have := HZ.out; have := HL13.out.size; omega) HL13.out.rw7 (by have := HL13.out.size; have := HOrd.out; omega)).mono ?_
      rintro e w14 ⟨rfl, hB14⟩
      have HL14 := hide (HL13.out.step hB14)
      have HR14 := hide (HR13.out.one hB14 (by have := HZ.out; have := HL13.out.size; omega))
      have HG14 := hide (HG13.out.one hB14 (by have := HZ.out; have := HL13.out.size; omega))
      have u0 := HL14.out.box11.cell 0 _ rfl
      have u1 := HL14.out.box11.cell 1 _ rfl
      have u2 := HL14.out.box11.cell 2 _ rfl
      have u3 := HL14.out.box11.cell 3 _ rfl
      have v0 := HL14.out.box7.cell 0 _ rfl
      have v1 := HL14.out.box7.cell 1 _ rfl
      have v2 := HL14.out.box7.cell 2 _ rfl
      have v3 := HL14.out.box7.cell 3 _ rfl
      clear hB14 HL13 HR13 HG13
      go_wp2_with fail
      refine (HEqS.out w14 _ _ _ _ ga7 gc7 ga3 gc3 HG14.out.strs (by have := HZ.out; have := HL14.out.size; omega) HL14.out.s7 (by have := HL14.out.size; have := HOrd.out; omega)).mono ?_
      rintro e w15 ⟨rfl, hB15⟩
      have HL15 := hide (HL14.out.step hB15)
      have HR15 := hide (HR14.out.one hB15 (by have := HZ.out; have := HL14.out.size; omega))
      have HG15 := hide (HG14.out.one hB15 (by have := HZ.out; have := HL14.out.size; omega))
      clear hB15 HL14 HR14 HG14 u0 u1 u2 u3 v0 v1 v2 v3
      go_wp2_with fail
      -- the answers are marked
      refine (HMkR.out w15 a7 c7 bR HR15.out (by have := HZ.out; have := HL15.out.size; omega)).mono ?_
      rintro e w16 ⟨n2, rfl, hn2, hM16, hI16⟩
      have HN2 := hide hn2
      have hn2p : 0 < n2 := by omega
      have hn2b : n2 ≤ 3000000 := by have := HLen.out.1; omega
      have HM16 := hide hM16
      have HL16 := hide (HL15.out.inr hI16 (.inr (by have := HZ.out; have := HOrd.out; omega)))
      have HG16 := hide (HG15.out.same (hI16.sameIn (fun k g1 g2 => by have := HZ.out; omega) (by have := HZ.out; have := HL15.out.size; omega)))
      have u0 := HL16.out.box11.cell 0 _ rfl
      have u1 := HL16.out.box11.cell 1 _ rfl
      have u2 := HL16.out.box11.cell 2 _ rfl
      have u3 := HL16.out.box11.cell 3 _ rfl
      clear hn2 hM16 hI16 HL15 HR15 HG15
      go_wp2_with fail
      refine (HMkS.out w16 ga7 gc7 bG n2 HG16.out (by have := HZ.out; have := HL16.out.size; omega) hn2p hn2b).mono ?_
      rintro e w17 ⟨n3, rfl, hn3, hM17, hI17⟩
      have HN3 := hide hn3
      have HP17 := hide hM17
      have HL17 := hide (HL16.out.inr hI17 (.inr (by have := HZ.out; have := HOrd.out; omega)))
      have HM17 := hide (HM16.out.same (hI17.sameIn (fun k g1 g2 => by have := HZ.out; omega) (by have := HZ.out; have := HL16.out.size; omega)))
      have hn2n : ¬ ((n2 : Int) < 0) := by omega
      have hn3n : ¬ ((n3 : Int) < 0) := by omega
      have hne3 : ((n3 : Int) != (n3 : Int)) = false := by simp
      clear hn3 hM17 hI17 HL16 HG16 HM16 u0 u1 u2 u3
      go_wp2_with fail
      refine (HHdR.out w17 _ _ a7 c7 n2 HN2.out HM17.out (by have := HZ.out; have := HL17.out.size; omega)).mono ?_
      rintro e w18 ⟨rfl, hB18⟩
      have HL18 := hide (HL17.out.step hB18)
      have HM18 := hide (HM17.out.keep hB18 (by have := HZ.out; have := HL17.out.size; omega))
      have HP18 := hide (HP17.out.keep hB18 (by have := HZ.out; have := HL17.out.size; omega))
      have u0 := HL18.out.box11.cell 0 _ rfl
      have u1 := HL18.out.box11.cell 1 _ rfl
      have u2 := HL18.out.box11.cell 2 _ rfl
      have u3 := HL18.out.box11.cell 3 _ rfl
      clear hB18 HL17 HM17 HP17
      go_wp2_with fail
      refine (HHdS.out w18 _ _ ga7 gc7 n2 n3 HN3.out HP18.out (by have := HZ.out; have := HL18.out.size; omega) hn2p hn2b).mono ?_
      rintro e w19 ⟨rfl, hB19⟩
      have HL19 := hide (HL18.out.step hB19)
      have HM19 := hide (HM18.out.keep hB19 (by have := HZ.out; have := HL18.out.size; omega))
      have HP19 := hide (HP18.out.keep hB19 (by have := HZ.out; have := HL18.out.size; omega))
      have x0 := HL19.out.q.cell 0 _ rfl
      have x1 := HL19.out.q.cell 1 _ rfl
      have x2 := HL19.out.q.cell 2 _ rfl
      have x3 := HL19.out.q.cell 3 _ rfl
      clear hB19 HL18 HM18 HP18 u0 u1 u2 u3
      go_wp2_with fail
      -- once more
      refine (HTo.out w19 HL19.out.below).mono ?_
      rintro e w20 ⟨a20, c20, b20, rfl, hO20, hB20⟩
      have HS20 := hide hO20.strs
      have HL20 := hide (HL19.out.step hB20)
      have HM20 := hide (HM19.out.keep hB20 (by have := HZ.out; have := HL19.out.size; omega))
      have HP20 := hide (HP19.out.keep hB20 (by have := HZ.out; have := HL19.out.size; omega))
      clear hO20 hB20 HL19 HM19 HP19 x0 x1 x2 x3
      go_wp2_with fail
      refine (HIm.out w20 a20 c20 _ _ HL20.out.below HS20.out (Nat.le_refl _)).mono ?_
      rintro e w21 ⟨a21, c21, ga21, gc21, bR21, bG21, rfl, hR21, hG21, _, hbR21, hbG21, hB21⟩
      have HR21 := hide hR21.rws
      have HG21 := hide hG21.strs
      have HZ21 := hide (And.intro hbR21.2 hbG21.2)
      have HL21 := hide (HL20.out.step hB21)
      have HM21 := hide (HM20.out.keep hB21 (by have := HZ.out; have := HL20.out.size; omega))
      have HP21 := hide (HP20.out.keep hB21 (by have := HZ.out; have := HL20.out.size; omega))
      clear hR21 hG21 hbR21 hbG21 hB21 HL20 HM20 HP20 HS20
      go_wp2_with fail
      generalize hW22 : w21.alloc (Obj.cells #[.int .i64 gn, .string tx, .slice ga21 gs.length gc21, .int .i64 nx] 32) = W22
      have HW22 : Hid (Below w21.heap.size w21 W22 ∧ Blk W22 w21.heap.size #[.int .i64 gn, .string tx, .slice ga21 gs.length gc21, .int .i64 nx] 32 ∧ W22.heap.size = w21.heap.size + 1) := by
        subst hW22
        exact ⟨(Below.refl _ _).alloc (Nat.le_refl _) _, Blk.new _ _ _, by simp⟩
      clear hW22
      have HL22 := hide (HL21.out.step HW22.out.1)
      have HM22 := hide (HM21.out.keep HW22.out.1 (by have := HZ.out; have := HL21.out.size; omega))
      have HP22 := hide (HP21.out.keep HW22.out.1 (by have := HZ.out; have := HL21.out.size; omega))
      have HR22 := hide (HR21.out.keep HW22.out.1 HZ21.out.1)
      have HG22 := hide (HG21.out.keep HW22.out.1 HZ21.out.2)
      clear HL21 HM21 HP21 HR21 HG21
      refine (HEqR.out W22 _ _ _ _ a21 c21 a3 c3 HR22.out (by have := HZ21.out; have := HW22.out.2.2; omega) HL22.out.rw7 (by have := HL22.out.size; have := HOrd.out; omega)).mono ?_
      rintro e w23 ⟨rfl, hB23⟩
      have HL23 := hide (HL22.out.step hB23)
      have HM23 := hide (HM22.out.keep hB23 (by have := HZ.out; have := HL22.out.size; omega))
      have HP23 := hide (HP22.out.keep hB23 (by have := HZ.out; have := HL22.out.size; omega))
      have HG23 := hide (HG22.out.keep hB23 (by have := HZ21.out; have := HW22.out.2.2; omega))
      have HQ23 := hide (HW22.out.2.1.below hB23 HW22.out.2.1.lt)
      have HZ23 : Hid (bG21 + 1 ≤ w23.heap.size) := by have := HZ21.out; have := HW22.out.2.2; have := hB23.size; show _ ≤ _; omega
      have u0 := HQ23.out.cell 0 _ rfl
      have u1 := HQ23.out.cell 1 _ rfl
      have u2 := HQ23.out.cell 2 _ rfl
      have u3 := HQ23.out.cell 3 _ rfl
      have v0 := HL23.out.box7.cell 0 _ rfl
      have v1 := HL23.out.box7.cell 1 _ rfl
      have v2 := HL23.out.box7.cell 2 _ rfl
      have v3 := HL23.out.box7.cell 3 _ rfl
      clear hB23 HL22 HM22 HP22 HG22 HR22
      go_wp2_with fail
      refine (HEqS.out w23 _ _ _ _ ga21 gc21 ga3 gc3 HG23.out HZ23.out HL23.out.s7 (by have := HL23.out.size; have := HOrd.out; omega)).mono ?_
      rintro e w24 ⟨rfl, hB24⟩
      have HL24 := hide (HL23.out.step hB24)
      have HM24 := hide (HM23.out.keep hB24 (by have := HZ.out; have := HL23.out.size; omega))
      have HP24 := hide (HP23.out.keep hB24 (by have := HZ.out; have := HL23.out.size; omega))
      clear hB24 HL23 HM23 HP23 HG23 u0 u1 u2 u3 v0 v1 v2 v3
      go_wp2_with fail
      refine (HHdR.out w24 _ _ a7 c7 n2 HN2.out HM24.out (by have := HZ.out; have := HL24.out.size; omega)).mono ?_
      rintro e w25 ⟨rfl, hB25⟩
      have HL25 := hide (HL24.out.step hB25)
      have HP25 := hide (HP24.out.keep hB25 (by have := HZ.out; have := HL24.out.size; omega))
      have u0 := HL25.out.box11.cell 0 _ rfl
      have u1 := HL25.out.box11.cell 1 _ rfl
      have u2 := HL25.out.box11.cell 2 _ rfl
      have u3 := HL25.out.box11.cell 3 _ rfl
      clear hB25 HL24 HM24 HP24
      go_wp2_with fail
      refine (HHdS.out w25 _ _ ga7 gc7 n2 n3 HN3.out HP25.out (by have := HZ.out; have := HL25.out.size; omega) hn2p hn2b).mono ?_
      rintro e w26 ⟨rfl, hB26⟩
      have HB26 := hide (HL25.out.below.trans (hB26.mono HL25.out.below.size))
      clear hB26
      go_wp2_with fail
      go_ret
      exact ⟨rfl, HB26.out⟩
  · obtain ⟨gen, text, groups, next⟩ := s
    show Calls Tryd.prog 4 #[.agg #[.int .i64 gen, .string text, gv, .int .i64 next], .string t] w _
    obtain ⟨va, vc, rfl, _⟩ := hv
    go_enter Tryd.func4, Tryd.ntmps4
    go_wp2_with fail
    go_ret
    exact ⟨rfl, HB0.out _⟩

end Go.Proofs.YtofgadldopaniaaDoor
