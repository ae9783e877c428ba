/- What marked lists of pages and of kept names hold; the same, with comparison and marks, of both together. Written by wip/pgh.py. -/
import Derived.Test.YtnahpghbodmdbaaDoorPgs
namespace Go.Proofs.YtnahpghbodmdbaaDoor
open Go.RowKit


set_option maxHeartbeats 2000000 in
theorem heldPageS_any (l : List Pg) (v : Value) (k : Nat) (w : World) (lo hi : Nat) (hO : RcsAt fPg w lo hi v (markK gPg c3 l k)) (hhi : hi ≤ w.heap.size) (hk0 : 0 < k) (hk : k + 3 * l.length ≤ 1073741824) :
    Calls Tryd.prog 32 #[v, .int .i64 k] w fun e w' => e = .returned (.int .i64 ((k + 3 * l.length : Nat) : Int)) ∧ Below w.heap.size w w' := by
  obtain ⟨a, cap, rfl, hl, hc⟩ := hO
  rw [markK_length] at hl ⊢
  unfold maxLen at hl
  have HC : Hid (0 < l.length → ∃ b o, a = some ⟨b, o, none⟩ ∧ lo ≤ b ∧ b < hi ∧ ∀ (i : Nat) (h : i < l.length),
      w.cell? ⟨b, o + i * 3, none⟩ = some (.bool ((k + 3 * i) % 3 == 0)) ∧ w.cell? ⟨b, o + i * 3 + 1, none⟩ = some (.string (mtext (k + 3 * i + 1))) ∧ w.cell? ⟨b, o + i * 3 + 2, none⟩ = some (.int .i64 ((k + 3 * i + 2 : Nat) : Int))) := fun h => by
    obtain ⟨b, o, h1, h2, h3, h4⟩ := hc (by rw [markK_length]; exact h)
    refine ⟨b, o, h1, h2, h3, fun i hi => ?_⟩
    have := h4 i (by rw [markK_length]; exact hi)
    rw [markK_get gPg c3 l k i hi, sum_c3_take l i (by omega)] at this
    exact this
  clear hc
  go_enter Tryd.func32, Tryd.ntmps32
  go_wp2_with fail
  go_loopw [1, 5] (fun x i wr => ∃ (j kj : Nat), j ≤ l.length ∧ x = .int .i64 (kj : Int) ∧ i = .int .i64 j ∧ Hid (kj = k + 3 * j) ∧ Hid (Below w.heap.size w wr)) (fun _ i _ => l.length - (intOf i).toNat)
  case atStart => exact ⟨0, k, Nat.zero_le _, rfl, rfl, rfl, Below.refl _ _⟩
  case round =>
    obtain ⟨j, kj, hj, rfl, rfl, HKj, HB⟩ := hrel
    by_cases hlt : j < l.length
    · obtain ⟨b, o, rfl, hb1, hb2, hcell⟩ := HC.out (by omega)
      obtain ⟨c0, c1, c2⟩ := hcell j hlt
      rw [← HKj.out] at c0 c1 c2
      have hkb : kj + 3 ≤ 1073741824 := by have := HKj.out; omega
      have hltI : (j : Int) < (l.length : Int) := by omega
      have hm3 := mod3 kj
      generalize (kj % 3 == 0) = bb at c0 hm3
      have hbb : (bb != bb) = false := by simp
      have e2 : (((kj + 2 : Nat) : Int) != ((kj + 2 : Nat) : Int)) = false := by simp
      have e2' : (((kj : Int) + 1 + 1) != ((kj : Int) + 1 + 1)) = false := by simp
      have hN2 : ((kj + 2 : Nat) : Int) = (kj : Int) + 1 + 1 := by omega
      rw [hN2] at c2
      have HC1 : Hid (∀ W, Below w.heap.size w W → W.cell? ⟨b, o + j * 3 + 1, none⟩ = some (.string (mtext (kj + 1)))) := fun W h => (h.cell (p := ⟨b, _, none⟩) (by show b < w.heap.size; omega)).trans c1
      have HC2 : Hid (∀ W, Below w.heap.size w W → W.cell? ⟨b, o + j * 3 + 2, none⟩ = some (.int .i64 ((kj : Int) + 1 + 1))) := fun W h => (h.cell (p := ⟨b, _, none⟩) (by show b < w.heap.size; omega)).trans c2
      have x0 := (HB.out.cell (p := ⟨b, o + j * 3, none⟩) (by show b < w.heap.size; omega)).trans c0
      have x1 := HC1.out wr HB.out
      have HMT : Hid (∀ W, Below w.heap.size w W → Calls Tryd.prog 52 #[.int .i64 ((kj : Int) + 1)] W fun e' w' => e' = .returned (.string (mtext (kj + 1))) ∧ Below w.heap.size w w') := fun W hW => (markText_any (kj + 1) W (by have := HKj.out; omega) (by omega)).mono fun e' w' ⟨h1, h2⟩ => ⟨h1, hW.trans (h2.mono hW.size)⟩
      clear c0 c1 c2 hcell
      go_wp2_with fail
      go_region_with (go_at_call 52; refine (HMT.out _ (by first | exact HB.out.drew | exact HB.out)).mono ?_; rintro e1 w1 ⟨rfl, hB1⟩; have HB1 := hide hB1; have d1 := HC1.out w1 hB1; have d2 := HC2.out w1 hB1; clear hB1)
      all_goals
        go_wp2_with fail
        go_roundw
        case rel => exact ⟨j + 1, kj + 3, by omega, by go_num, by go_num, (by show kj + 3 = _; have := HKj.out; omega), HB1⟩
        case measure => simp [intOf]; omega
    · have e : j = l.length := by omega
      subst e
      have hkj := HKj.out
      subst hkj
      go_wp2_with fail
      go_ret
      exact ⟨rfl, HB.out⟩


set_option maxHeartbeats 2000000 in
theorem heldPageNameS_any (l : List Pn) (v : Value) (k : Nat) (w : World) (lo hi : Nat) (hO : RcsAt fPn w lo hi v (markK gPn c3 l k)) (hhi : hi ≤ w.heap.size) (hk0 : 0 < k) (hk : k + 3 * l.length ≤ 1073741824) :
    Calls Tryd.prog 33 #[v, .int .i64 k] w fun e w' => e = .returned (.int .i64 ((k + 3 * l.length : Nat) : Int)) ∧ Below w.heap.size w w' := by
  obtain ⟨a, cap, rfl, hl, hc⟩ := hO
  rw [markK_length] at hl ⊢
  unfold maxLen at hl
  have HC : Hid (0 < l.length → ∃ b o, a = some ⟨b, o, none⟩ ∧ lo ≤ b ∧ b < hi ∧ ∀ (i : Nat) (h : i < l.length),
      w.cell? ⟨b, o + i * 3, none⟩ = some (.string (mtext (k + 3 * i))) ∧ w.cell? ⟨b, o + i * 3 + 1, none⟩ = some (.int .i64 ((k + 3 * i + 1 : Nat) : Int)) ∧ w.cell? ⟨b, o + i * 3 + 2, none⟩ = some (.int .i64 ((k + 3 * i + 2 : Nat) : Int))) := fun h => by
    obtain ⟨b, o, h1, h2, h3, h4⟩ := hc (by rw [markK_length]; exact h)
    refine ⟨b, o, h1, h2, h3, fun i hi => ?_⟩
    have := h4 i (by rw [markK_length]; exact hi)
    rw [markK_get gPn c3 l k i hi, sum_c3_take l i (by omega)] at this
    exact this
  clear hc
  go_enter Tryd.func33, Tryd.ntmps33
  go_wp2_with fail
  go_loopw [1, 5] (fun x i wr => ∃ (j kj : Nat), j ≤ l.length ∧ x = .int .i64 (kj : Int) ∧ i = .int .i64 j ∧ Hid (kj = k + 3 * j) ∧ Hid (Below w.heap.size w wr)) (fun _ i _ => l.length - (intOf i).toNat)
  case atStart => exact ⟨0, k, Nat.zero_le _, rfl, rfl, rfl, Below.refl _ _⟩
  case round =>
    obtain ⟨j, kj, hj, rfl, rfl, HKj, HB⟩ := hrel
    by_cases hlt : j < l.length
    · obtain ⟨b, o, rfl, hb1, hb2, hcell⟩ := HC.out (by omega)
      obtain ⟨c0, c1, c2⟩ := hcell j hlt
      rw [← HKj.out] at c0 c1 c2
      have hkb : kj + 3 ≤ 1073741824 := by have := HKj.out; omega
      have hltI : (j : Int) < (l.length : Int) := by omega
      have e1 : (((kj : Int) + 1) != ((kj : Int) + 1)) = false := by simp
      have e2' : (((kj : Int) + 1 + 1) != ((kj : Int) + 1 + 1)) = false := by simp
      have hN1 : ((kj + 1 : Nat) : Int) = (kj : Int) + 1 := by omega
      rw [hN1] at c1
      have hN2 : ((kj + 2 : Nat) : Int) = (kj : Int) + 1 + 1 := by omega
      rw [hN2] at c2
      have HC0 : Hid (∀ W, Below w.heap.size w W → W.cell? ⟨b, o + j * 3, none⟩ = some (.string (mtext kj))) := fun W h => (h.cell (p := ⟨b, _, none⟩) (by show b < w.heap.size; omega)).trans c0
      have HC1 : Hid (∀ W, Below w.heap.size w W → W.cell? ⟨b, o + j * 3 + 1, none⟩ = some (.int .i64 ((kj : Int) + 1))) := fun W h => (h.cell (p := ⟨b, _, none⟩) (by show b < w.heap.size; omega)).trans c1
      have HC2 : Hid (∀ W, Below w.heap.size w W → W.cell? ⟨b, o + j * 3 + 2, none⟩ = some (.int .i64 ((kj : Int) + 1 + 1))) := fun W h => (h.cell (p := ⟨b, _, none⟩) (by show b < w.heap.size; omega)).trans c2
      have x0 := HC0.out wr HB.out
      have HMT : Hid (∀ W, Below w.heap.size w W → Calls Tryd.prog 52 #[.int .i64 (kj : Int)] W fun e' w' => e' = .returned (.string (mtext (kj))) ∧ Below w.heap.size w w') := fun W hW => (markText_any (kj) W (by have := HKj.out; omega) (by omega)).mono fun e' w' ⟨h1, h2⟩ => ⟨h1, hW.trans (h2.mono hW.size)⟩
      clear c0 c1 c2 hcell
      go_wp2_with fail
      go_region_with (go_at_call 52; refine (HMT.out _ (by first | exact HB.out.drew | exact HB.out)).mono ?_; rintro e1 w1 ⟨rfl, hB1⟩; have HB1 := hide hB1; have d0 := HC0.out w1 hB1; have d1 := HC1.out w1 hB1; have d2 := HC2.out w1 hB1; clear hB1)
      all_goals
        go_wp2_with fail
        go_roundw
        case rel => exact ⟨j + 1, kj + 3, by omega, by go_num, by go_num, (by show kj + 3 = _; have := HKj.out; omega), HB1⟩
        case measure => simp [intOf]; omega
    · have e : j = l.length := by omega
      subst e
      have hkj := HKj.out
      subst hkj
      go_wp2_with fail
      go_ret
      exact ⟨rfl, HB.out⟩


/-- Pages and names in memory of their own, each list in a block of its own. -/
structure OwnPgs (w : World) (b1 b2 : Nat) (v1 v2 : Value) (l1 : List Pg) (l2 : List Pn) : Prop where
  pgs : OwnRcs fPg w b1 (b1 + 1) b1 v1 l1
  nms : OwnRcs fPn w b2 (b2 + 1) b2 v2 l2
  ne : b1 ≠ b2
  lt1 : b1 < w.heap.size
  lt2 : b2 < w.heap.size
theorem OwnPgs.below {w w' : World} {b1 b2 : Nat} {v1 v2 : Value} {l1 : List Pg} {l2 : List Pn} (h : OwnPgs w b1 b2 v1 v2 l1 l2) (hb : Below w.heap.size w w') : OwnPgs w' b1 b2 v1 v2 l1 l2 :=
  ⟨h.pgs.same (fun _ => hb.block _ h.lt1), h.nms.same (fun _ => hb.block _ h.lt2), h.ne, Nat.lt_of_lt_of_le h.lt1 hb.size, Nat.lt_of_lt_of_le h.lt2 hb.size⟩

set_option maxHeartbeats 1000000 in
theorem eqPages_any (l1 : List Pg) (l2 : List Pn) (v1 v2 u1 u2 : Value) (w : World) (lo hi lo' hi' : Nat) (h1 : RcsAt fPg w lo hi v1 l1) (h2 : RcsAt fPn w lo hi v2 l2) (g1 : RcsAt fPg w lo' hi' u1 l1) (g2 : RcsAt fPn w lo' hi' u2 l2) (hhi : hi ≤ w.heap.size) (hhi' : hi' ≤ w.heap.size) :
    Calls Tryd.prog 9 #[.agg #[v1, v2], .agg #[u1, u2]] w fun e w' => e = .returned (.bool true) ∧ Below w.heap.size w w' := by
  have HC1 : Hid (∀ W, Below w.heap.size w W → Calls Tryd.prog 24 #[v1, u1] W fun e w' => e = .returned (.bool true) ∧ Below W.heap.size W w') := fun W hb => eqPageS_any l1 v1 u1 W lo hi lo' hi' (h1.keep hb hhi) (g1.keep hb hhi') (Nat.le_trans hhi hb.size) (Nat.le_trans hhi' hb.size)
  have HC2 : Hid (∀ W, Below w.heap.size w W → Calls Tryd.prog 25 #[v2, u2] W fun e w' => e = .returned (.bool true) ∧ Below W.heap.size W w') := fun W hb => eqPageNameS_any l2 v2 u2 W lo hi lo' hi' (h2.keep hb hhi) (g2.keep hb hhi') (Nat.le_trans hhi hb.size) (Nat.le_trans hhi' hb.size)
  obtain ⟨a1, n1, c1, rfl⟩ : ∃ a n c, v1 = .slice a n c := by obtain ⟨a, c, e, _⟩ := h1; exact ⟨_, _, _, e⟩
  obtain ⟨a2, n2, c2, rfl⟩ : ∃ a n c, v2 = .slice a n c := by obtain ⟨a, c, e, _⟩ := h2; exact ⟨_, _, _, e⟩
  obtain ⟨a3, n3, c3, rfl⟩ : ∃ a n c, u1 = .slice a n c := by obtain ⟨a, c, e, _⟩ := g1; exact ⟨_, _, _, e⟩
  obtain ⟨a4, n4, c4, rfl⟩ : ∃ a n c, u2 = .slice a n c := by obtain ⟨a, c, e, _⟩ := g2; exact ⟨_, _, _, e⟩
  have HA : Hid (∀ o1 o2, Below w.heap.size w ((w.alloc o1).alloc o2)) := fun o1 o2 => ((Below.refl _ _).alloc (Nat.le_refl _) o1).alloc (by simp) o2
  clear h1 h2 g1 g2
  go_enter Tryd.func9, Tryd.ntmps9
  go_wp2_with fail
  generalize hW : (w.alloc (.cells #[.slice a1 n1 c1, .slice a2 n2 c2] 32)).alloc (.cells #[.slice a3 n3 c3, .slice a4 n4 c4] 32) = W
  have HW : Hid (Below w.heap.size w W ∧ Blk W w.heap.size #[.slice a1 n1 c1, .slice a2 n2 c2] 32 ∧ Blk W (w.heap.size + 1) #[.slice a3 n3 c3, .slice a4 n4 c4] 32) := by subst hW; exact ⟨HA.out _ _, (Blk.new w _ _).alloc _, Blk.atn (by simp)⟩
  clear hW HA
  refine (HC1.out W HW.out.1).mono ?_
  rintro e w1 ⟨rfl, hB1⟩
  have HW1 : Hid (Below w.heap.size w w1) := HW.out.1.trans (hB1.mono HW.out.1.size)
  have x1 := (HW.out.2.1.below hB1 HW.out.2.1.lt).cell 1 _ rfl
  have y1 := (HW.out.2.2.below hB1 HW.out.2.2.lt).cell 1 _ rfl
  clear hB1 HW HC1
  go_wp2_with fail
  refine (HC2.out w1 HW1.out).mono ?_
  rintro e w2 ⟨rfl, hB2⟩
  have HW2 : Hid (Below w.heap.size w w2) := HW1.out.trans (hB2.mono HW1.out.size)
  clear hB2
  go_wp2_with fail
  go_ret
  exact ⟨rfl, HW2.out⟩

set_option maxHeartbeats 1000000 in
theorem markPages_own (l1 : List Pg) (l2 : List Pn) (v1 v2 : Value) (b1 b2 k : Nat) (w : World) (lo hi : Nat) (ho : OwnPgs w b1 b2 v1 v2 l1 l2) (hlo : lo ≤ b1 ∧ lo ≤ b2 ∧ b1 < hi ∧ b2 < hi) (hk0 : 0 < k) (hk : k + 3 * l1.length + 3 * l2.length ≤ 1073741824) :
    Calls Tryd.prog 12 #[.agg #[v1, v2], .int .i64 k] w fun e w' => e = .returned (.int .i64 ((k + 3 * l1.length + 3 * l2.length : Nat) : Int)) ∧ OwnPgs w' b1 b2 v1 v2 (markK gPg c3 l1 k) (markK gPn c3 l2 (k + 3 * l1.length)) ∧ InR lo hi w w' := by
  obtain ⟨a1, n1, c1, rfl⟩ : ∃ a n c, v1 = .slice a n c := by obtain ⟨⟨a, c, e, _⟩, _⟩ := ho.pgs; exact ⟨_, _, _, e⟩
  obtain ⟨a2, n2, c2, rfl⟩ : ∃ a n c, v2 = .slice a n c := by obtain ⟨⟨a, c, e, _⟩, _⟩ := ho.nms; exact ⟨_, _, _, e⟩
  have HO := hide ho
  have HC1 : Hid (∀ W, Below w.heap.size w W → Calls Tryd.prog 30 #[.slice a1 n1 c1, .int .i64 (k : Int)] W fun e w' => e = .returned (.int .i64 ((k + 3 * l1.length : Nat) : Int)) ∧ OwnRcs fPg w' b1 (b1 + 1) b1 (.slice a1 n1 c1) (markK gPg c3 l1 k) ∧ InR b1 (b1 + 1) W w') := fun W hb =>
    markPageS_own l1 _ b1 k W b1 (b1 + 1) (ho.below hb).pgs (fun _ => (ho.below hb).lt1) hk0 (by omega)
  clear ho
  go_enter Tryd.func12, Tryd.ntmps12
  go_wp2_with fail
  generalize hW : w.alloc (.cells #[.slice a1 n1 c1, .slice a2 n2 c2] 32) = W
  have HW : Hid (Below w.heap.size w W ∧ Blk W w.heap.size #[.slice a1 n1 c1, .slice a2 n2 c2] 32) := by subst hW; exact ⟨(Below.refl _ _).alloc (Nat.le_refl _) _, Blk.new w _ _⟩
  clear hW
  refine (HC1.out W HW.out.1).mono ?_
  rintro e w1 ⟨rfl, hO1, hR1⟩
  have HR1 := hide hR1
  have HO1 : Hid (OwnPgs w1 b1 b2 (.slice a1 n1 c1) (.slice a2 n2 c2) (markK gPg c3 l1 k) l2) := by
    have h0 := HO.out.below HW.out.1
    have := h0.ne
    exact ⟨hO1, h0.nms.same (fun _ => hR1.block _ h0.lt2 (by omega)), h0.ne, Nat.lt_of_lt_of_le h0.lt1 hR1.size, Nat.lt_of_lt_of_le h0.lt2 hR1.size⟩
  have hq : w1.heap[w.heap.size]? = W.heap[w.heap.size]? := hR1.block _ HW.out.2.lt (by have := HO.out.lt1; omega)
  have x1 : w1.cell? ⟨w.heap.size, 1, none⟩ = some (.slice a2 n2 c2) := (World.cell?_of_block (a := ⟨w.heap.size, 1, none⟩) hq).trans (HW.out.2.cell 1 _ rfl)
  have HC2 : Hid (Calls Tryd.prog 31 #[.slice a2 n2 c2, .int .i64 ((k + 3 * l1.length : Nat) : Int)] w1 fun e w' => e = .returned (.int .i64 ((k + 3 * l1.length + 3 * l2.length : Nat) : Int)) ∧ OwnRcs fPn w' b2 (b2 + 1) b2 (.slice a2 n2 c2) (markK gPn c3 l2 (k + 3 * l1.length)) ∧ InR b2 (b2 + 1) w1 w') :=
    markPageNameS_own l2 _ b2 (k + 3 * l1.length) w1 b2 (b2 + 1) HO1.out.nms (fun _ => HO1.out.lt2) (by omega) (by omega)
  clear hO1 hR1 hq HC1
  go_wp2_with fail
  refine HC2.out.mono ?_
  rintro e w2 ⟨rfl, hO2, hR2⟩
  have HE : Hid (OwnPgs w2 b1 b2 (.slice a1 n1 c1) (.slice a2 n2 c2) (markK gPg c3 l1 k) (markK gPn c3 l2 (k + 3 * l1.length)) ∧ InR lo hi w w2) := by
    have := HO1.out.ne
    refine ⟨⟨HO1.out.pgs.same (fun _ => hR2.block _ HO1.out.lt1 (by omega)), hO2, HO1.out.ne, Nat.lt_of_lt_of_le HO1.out.lt1 hR2.size, Nat.lt_of_lt_of_le HO1.out.lt2 hR2.size⟩, ?_⟩
    exact ((InR.of_below HW.out.1).trans (HR1.out.wide hlo.1 hlo.2.2.1)).trans (hR2.wide hlo.2.1 hlo.2.2.2)
  clear hO2 hR2
  go_wp2_with fail
  go_ret
  exact ⟨rfl, HE.out⟩

set_option maxHeartbeats 1000000 in
theorem heldPages_any (l1 : List Pg) (l2 : List Pn) (v1 v2 : Value) (k : Nat) (w : World) (lo hi : Nat) (h1 : RcsAt fPg w lo hi v1 (markK gPg c3 l1 k)) (h2 : RcsAt fPn w lo hi v2 (markK gPn c3 l2 (k + 3 * l1.length))) (hhi : hi ≤ w.heap.size) (hk0 : 0 < k) (hk : k + 3 * l1.length + 3 * l2.length ≤ 1073741824) :
    Calls Tryd.prog 13 #[.agg #[v1, v2], .int .i64 k] w fun e w' => e = .returned (.int .i64 ((k + 3 * l1.length + 3 * l2.length : Nat) : Int)) ∧ Below w.heap.size w w' := by
  have HC1 : Hid (∀ W, Below w.heap.size w W → Calls Tryd.prog 32 #[v1, .int .i64 (k : Int)] W fun e w' => e = .returned (.int .i64 ((k + 3 * l1.length : Nat) : Int)) ∧ Below W.heap.size W w') := fun W hb => heldPageS_any l1 v1 k W lo hi (h1.keep hb hhi) (Nat.le_trans hhi hb.size) hk0 (by omega)
  have HC2 : Hid (∀ W, Below w.heap.size w W → Calls Tryd.prog 33 #[v2, .int .i64 ((k + 3 * l1.length : Nat) : Int)] W fun e w' => e = .returned (.int .i64 ((k + 3 * l1.length + 3 * l2.length : Nat) : Int)) ∧ Below W.heap.size W w') := fun W hb => heldPageNameS_any l2 v2 (k + 3 * l1.length) W lo hi (h2.keep hb hhi) (Nat.le_trans hhi hb.size) (by omega) (by omega)
  obtain ⟨a1, n1, c1, rfl⟩ : ∃ a n c, v1 = .slice a n c := by obtain ⟨a, c, e, _⟩ := h1; exact ⟨_, _, _, e⟩
  obtain ⟨a2, n2, c2, rfl⟩ : ∃ a n c, v2 = .slice a n c := by obtain ⟨a, c, e, _⟩ := h2; exact ⟨_, _, _, e⟩
  clear h1 h2
  have q1 : ¬ (((k + 3 * l1.length : Nat) : Int) < 0) := by omega
  have q2 : ¬ (((k + 3 * l1.length + 3 * l2.length : Nat) : Int) < 0) := by omega
  generalize ((k + 3 * l1.length : Nat) : Int) = m1 at *
  generalize ((k + 3 * l1.length + 3 * l2.length : Nat) : Int) = m2 at *
  go_enter Tryd.func13, Tryd.ntmps13
  go_wp2_with fail
  generalize hW : w.alloc (.cells #[.slice a1 n1 c1, .slice a2 n2 c2] 32) = W
  have HW : Hid (Below w.heap.size w W ∧ Blk W w.heap.size #[.slice a1 n1 c1, .slice a2 n2 c2] 32) := by subst hW; exact ⟨(Below.refl _ _).alloc (Nat.le_refl _) _, Blk.new w _ _⟩
  clear hW
  refine (HC1.out W HW.out.1).mono ?_
  rintro e w1 ⟨rfl, hB1⟩
  have HW1 : Hid (Below w.heap.size w w1) := HW.out.1.trans (hB1.mono HW.out.1.size)
  have x1 := (HW.out.2.below hB1 HW.out.2.lt).cell 1 _ rfl
  clear hB1 HW HC1
  go_wp2_with fail
  refine (HC2.out w1 HW1.out).mono ?_
  rintro e w2 ⟨rfl, hB2⟩
  have HW2 : Hid (Below w.heap.size w w2) := HW1.out.trans (hB2.mono HW1.out.size)
  clear hB2
  go_wp2_with fail
  go_ret
  exact ⟨rfl, HW2.out⟩

end Go.Proofs.YtnahpghbodmdbaaDoor
