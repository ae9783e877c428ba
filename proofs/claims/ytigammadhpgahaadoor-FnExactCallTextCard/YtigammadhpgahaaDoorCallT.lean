/- Calls: the laws' own count, copies, comparison and marks. -/
import Derived.Test.YtigammadhpgahaaDoorCallB
import Derived.Test.YtigammadhpgahaaDoorTo
import Derived.Test.YtigammadhpgahaaDoorEq
import Derived.Test.YtigammadhpgahaaDoorLow
namespace Go.Proofs.YtigammadhpgahaaDoor
open Go.RowKit

def szC (c : Cl) (L : Int) : Int :=
  if szStrs c.path L < 0 then -1 else if szStrs c.to (szStrs c.path L) < 0 then -1
  else if szStrs c.to (szStrs c.path L) - c.data.size < 0 then -1 else szStrs c.to (szStrs c.path L) - c.data.size

set_option maxHeartbeats 1000000 in
theorem szCall_any (c : Cl) (pa : Option Addr) (pc : Nat) (ta : Option Addr) (tc : Nat) (left : Int) (w : World) (lo hi : Nat) (hc : ClOk w lo hi c pa pc ta tc) (hhi : hi ≤ w.heap.size) (h0 : 0 ≤ left) (h1 : left ≤ 1048576) :
    Calls Tryd.prog 4 #[aggC c pa pc ta tc, .int .i64 left] w fun r w' => r = .returned (.int .i64 (szC c left)) ∧ Below w.heap.size w w' := by
  obtain ⟨kind, path, dst, num, data⟩ := c
  obtain ⟨hp, ht, hd⟩ := hc
  have hd : data.size ≤ maxLen := hd
  unfold maxLen at hd
  have hle := szStrs_le path left h0
  have HD : Hid (szC ⟨kind, path, dst, num, data⟩ left = if szStrs path left < 0 then -1 else if szStrs dst (szStrs path left) < 0 then -1 else if szStrs dst (szStrs path left) - data.size < 0 then -1 else szStrs dst (szStrs path left) - data.size) := rfl
  have HC : Hid (∀ W, Below w.heap.size w W → Calls Tryd.prog 9 #[.slice pa path.length pc, .int .i64 left] W fun e w' => e = .returned (.int .i64 (szStrs path left)) ∧ w' = W) := fun W hW => szStringS_any path _ left W lo hi (StrsAt.keep hp hW hhi) h0 h1
  have HE : Hid (∀ L W, 0 ≤ L → L ≤ 1048576 → Below w.heap.size w W → Calls Tryd.prog 9 #[.slice ta dst.length tc, .int .i64 L] W fun e w' => e = .returned (.int .i64 (szStrs dst L)) ∧ w' = W) := fun L W g0 g1 hW => szStringS_any dst _ L W lo hi (StrsAt.keep ht hW hhi) g0 g1
  have HL : Hid (∀ L, 0 ≤ L → szStrs dst L ≤ L) := fun L h => szStrs_le dst L h
  clear hp ht
  show Calls Tryd.prog 4 #[.agg #[.int .i64 kind, .slice pa path.length pc, .slice ta dst.length tc, .int .i64 num, .string data], .int .i64 left] w _
  generalize szC ⟨kind, path, dst, num, data⟩ left = res at HD ⊢
  generalize szStrs path left = sp at HD HC hle
  have HA : Hid (∀ o, Below w.heap.size w (w.alloc o)) := fun o => (Below.refl _ _).alloc (Nat.le_refl _) o
  go_enter Tryd.func4, Tryd.ntmps4
  go_wp2_with fail
  refine (HC.out _ (HA.out _)).mono ?_
  rintro e w1 ⟨rfl, rfl⟩
  by_cases hn1 : sp < 0
  · have hr := HD.out
    rw [if_pos hn1] at hr
    subst hr
    go_wp2_with fail
    go_ret
    exact ⟨rfl, HA.out _⟩
  · have hle2 := HL.out sp (by omega)
    have HE1 := hide (HE.out sp (w.alloc (.cells #[.int .i64 kind, .slice pa path.length pc, .slice ta dst.length tc, .int .i64 num, .string data] 24)) (by omega) (by omega) (HA.out _))
    generalize szStrs dst sp = st at HD HE1 hle2
    go_wp2_with fail
    refine HE1.out.mono ?_
    rintro e w1 ⟨rfl, rfl⟩
    by_cases hn2 : st < 0
    · have hr := HD.out
      rw [if_neg (by omega), if_pos hn2] at hr
      subst hr
      go_wp2_with fail
      go_ret
      exact ⟨rfl, HA.out _⟩
    · by_cases hn3 : st - data.size < 0
      · have hr := HD.out
        rw [if_neg (by omega), if_neg (by omega), if_pos hn3] at hr
        subst hr
        go_wp2_with fail
        go_ret
        exact ⟨rfl, HA.out _⟩
      · have hr := HD.out
        rw [if_neg (by omega), if_neg (by omega), if_neg (by omega)] at hr
        subst hr
        go_wp2_with fail
        go_ret
        exact ⟨rfl, HA.out _⟩

theorem blkAt {w : World} {n : Nat} {A : Array Value} {t : TypeId} (h : w.heap.size = n) : Blk (w.alloc (.cells A t)) n A t := by rw [← h]; exact Blk.new w A t
/-- A call whose two paths lie each in a block of their own. -/
def OwnC (c : Cl) (b1 b2 : Nat) (pa : Option Addr) (ta : Option Addr) (W : World) : Prop :=
  OwnStrs W b1 (b1 + 1) b1 (.slice pa c.path.length c.path.length) c.path ∧ OwnStrs W b2 (b2 + 1) b2 (.slice ta c.to.length c.to.length) c.to ∧ b1 < b2 ∧ b2 < W.heap.size
theorem ownStrs_at {w w' : World} {b : Nat} {v : Value} {l : List ByteArray} (h : OwnStrs w b (b + 1) b v l) (hs : w'.heap[b]? = w.heap[b]?) : OwnStrs w' b (b + 1) b v l :=
  h.same fun k h1 h2 => by
    obtain rfl : k = b := by omega
    exact hs
theorem OwnC.below {c : Cl} {b1 b2 : Nat} {pa ta : Option Addr} {W W' : World} (h : OwnC c b1 b2 pa ta W) (hb : Below W.heap.size W W') : OwnC c b1 b2 pa ta W' :=
  ⟨ownStrs_at h.1 (hb.block _ (by have := h.2.2; omega)), ownStrs_at h.2.1 (hb.block _ h.2.2.2), h.2.2.1, Nat.lt_of_lt_of_le h.2.2.2 hb.size⟩

set_option maxHeartbeats 1000000 in
theorem toCall_any (c : Cl) (pa : Option Addr) (pc : Nat) (ta : Option Addr) (tc : Nat) (w : World) (lo hi : Nat) (hc : ClOk w lo hi c pa pc ta tc) (hhi : hi ≤ w.heap.size) (hl1 : c.path.length ≤ 1048576) (hl2 : c.to.length ≤ 1048576) :
    Calls Tryd.prog 6 #[aggC c pa pc ta tc] w fun r w' => ∃ pa' ta' b1 b2, r = .returned (aggC c pa' c.path.length ta' c.to.length) ∧ w.heap.size ≤ b1 ∧ OwnC c b1 b2 pa' ta' w' ∧ Below w.heap.size w w' := by
  obtain ⟨kind, path, dst, num, data⟩ := c
  obtain ⟨hp, ht, hd⟩ := hc
  have hl1 : path.length ≤ 1048576 := hl1
  have hl2 : dst.length ≤ 1048576 := hl2
  have HC : Hid (∀ W, Below w.heap.size w W → Calls Tryd.prog 15 #[.slice pa path.length pc] W fun e w' => ∃ a, e = .returned (.slice a path.length path.length) ∧ OwnStrs w' W.heap.size (W.heap.size + 1) W.heap.size (.slice a path.length path.length) path ∧ Below W.heap.size W w' ∧ w'.heap.size = W.heap.size + 1) := fun W hW =>
    (toStringS_cap path _ W lo hi (hp.keep hW hhi) (Nat.le_trans hhi hW.size) hl1).mono fun e w' ⟨v', h1, h2, h3, h4, a, h5⟩ => by
      subst h5
      rw [h4] at h2
      exact ⟨a, h1, h2, h3, h4⟩
  have HE : Hid (∀ W, Below w.heap.size w W → Calls Tryd.prog 15 #[.slice ta dst.length tc] W fun e w' => ∃ a, e = .returned (.slice a dst.length dst.length) ∧ OwnStrs w' W.heap.size (W.heap.size + 1) W.heap.size (.slice a dst.length dst.length) dst ∧ Below W.heap.size W w' ∧ w'.heap.size = W.heap.size + 1) := fun W hW =>
    (toStringS_cap dst _ W lo hi (ht.keep hW hhi) (Nat.le_trans hhi hW.size) hl2).mono fun e w' ⟨v', h1, h2, h3, h4, a, h5⟩ => by
      subst h5
      rw [h4] at h2
      exact ⟨a, h1, h2, h3, h4⟩
  clear hp ht hd
  show Calls Tryd.prog 6 #[.agg #[.int .i64 kind, .slice pa path.length pc, .slice ta dst.length tc, .int .i64 num, .string data]] w _
  go_enter Tryd.func6, Tryd.ntmps6
  go_wp2_with fail
  generalize hW : ((w.alloc (Obj.cells #[.int .i64 kind, .slice pa path.length pc, .slice ta dst.length tc, .int .i64 num, .string data] 24)).alloc (Obj.cells #[.int .i64 0, .slice none 0 0, .slice none 0 0, .int .i64 0, .string ⟨#[]⟩] 27)).alloc (Obj.cells #[.int .i64 kind, .slice none 0 0, .slice none 0 0, .int .i64 0, .string ⟨#[]⟩] 27) = W
  have HW : Hid (Below w.heap.size w W ∧ W.heap.size = w.heap.size + 3 ∧ Blk W w.heap.size #[.int .i64 kind, .slice pa path.length pc, .slice ta dst.length tc, .int .i64 num, .string data] 24 ∧ Blk W (w.heap.size + 1) #[.int .i64 0, .slice none 0 0, .slice none 0 0, .int .i64 0, .string ⟨#[]⟩] 27 ∧ Blk W (w.heap.size + 1 + 1) #[.int .i64 kind, .slice none 0 0, .slice none 0 0, .int .i64 0, .string ⟨#[]⟩] 27) := by
    subst hW
    exact ⟨(((Below.refl _ _).alloc (Nat.le_refl _) _).alloc (by simp) _).alloc (by simp; omega) _, by simp, ((Blk.new _ _ _).alloc _).alloc _, (blkAt (by simp)).alloc _, blkAt (by simp)⟩
  clear hW
  refine (HC.out W HW.out.1).mono ?_
  rintro e w1 ⟨a1, rfl, hS1, hB1, hz1⟩
  obtain ⟨hB0, hZ0, b0, b1, b2⟩ := HW.out
  have q0 := b0.below hB1 (by omega)
  have q1 := b1.below hB1 (by omega)
  have q2 := b2.below hB1 (by omega)
  have HQ1 : Hid (Below w.heap.size w w1 ∧ w1.heap.size = w.heap.size + 4 ∧ Blk w1 w.heap.size #[.int .i64 kind, .slice pa path.length pc, .slice ta dst.length tc, .int .i64 num, .string data] 24 ∧ Blk w1 (w.heap.size + 1) #[.int .i64 0, .slice none 0 0, .slice none 0 0, .int .i64 0, .string ⟨#[]⟩] 27 ∧ Blk w1 (w.heap.size + 1 + 1) #[.int .i64 kind, .slice none 0 0, .slice none 0 0, .int .i64 0, .string ⟨#[]⟩] 27 ∧ OwnStrs w1 (w.heap.size + 3) (w.heap.size + 3 + 1) (w.heap.size + 3) (.slice a1 path.length path.length) path) := ⟨hB0.trans (hB1.mono hB0.size), by omega, q0, q1, q2, by rw [hZ0] at hS1; exact hS1⟩
  have x2 := q0.cell 2 _ rfl
  have y1 := q2.cell 1 _ rfl
  have v1 := q2.frozen 1
  clear hS1 hB1 hB0 hZ0 hz1 b0 b1 b2 q0 q1 q2 HW HC
  go_wp2_with fail
  generalize hW2 : w1.setCell ⟨w.heap.size + 1 + 1, 1, none⟩ (.slice a1 path.length path.length) = W2
  have HW2 : Hid (Below w.heap.size w W2 ∧ W2.heap.size = w.heap.size + 4 ∧ Blk W2 w.heap.size #[.int .i64 kind, .slice pa path.length pc, .slice ta dst.length tc, .int .i64 num, .string data] 24 ∧ Blk W2 (w.heap.size + 1) #[.int .i64 0, .slice none 0 0, .slice none 0 0, .int .i64 0, .string ⟨#[]⟩] 27 ∧ Blk W2 (w.heap.size + 1 + 1) #[.int .i64 kind, .slice a1 path.length path.length, .slice none 0 0, .int .i64 0, .string ⟨#[]⟩] 27 ∧ OwnStrs W2 (w.heap.size + 3) (w.heap.size + 3 + 1) (w.heap.size + 3) (.slice a1 path.length path.length) path) := by
    subst hW2
    obtain ⟨r0, r1, r2, r3, r4, r5⟩ := HQ1.out
    exact ⟨r0.setCell (p := ⟨w.heap.size + 1 + 1, 1, none⟩) (by show w.heap.size ≤ w.heap.size + 1 + 1; omega) _, by simp [World.setCell]; omega, r2.other _ _ (by show w.heap.size ≠ w.heap.size + 1 + 1; omega), r3.other _ _ (by show w.heap.size + 1 ≠ w.heap.size + 1 + 1; omega), r4.set 1 _, ownStrs_at r5 (Below.heap_setCell _ _ _ _ (by show w.heap.size + 3 ≠ w.heap.size + 1 + 1; omega))⟩
  clear hW2 HQ1 x2 y1 v1
  refine (HE.out W2 HW2.out.1).mono ?_
  rintro e w2 ⟨a2, rfl, hS2, hB2, hz2⟩
  obtain ⟨hB0, hZ0, b0, b1, b2, hS1⟩ := HW2.out
  have q0 := b0.below hB2 (by omega)
  have q1 := b1.below hB2 (by omega)
  have q2 := b2.below hB2 (by omega)
  rw [hZ0] at hS2
  have HQ2 : Hid (Below w.heap.size w w2 ∧ w2.heap.size = w.heap.size + 5 ∧ OwnStrs w2 (w.heap.size + 3) (w.heap.size + 3 + 1) (w.heap.size + 3) (.slice a1 path.length path.length) path ∧ OwnStrs w2 (w.heap.size + 4) (w.heap.size + 4 + 1) (w.heap.size + 4) (.slice a2 dst.length dst.length) dst) := ⟨hB0.trans (hB2.mono hB0.size), by omega, ownStrs_at hS1 (hB2.block _ (by omega)), hS2⟩
  have x3 := q0.cell 3 _ rfl
  have x4 := q0.cell 4 _ rfl
  have y0 := q1.cell 0 _ rfl
  have y1 := q1.cell 1 _ rfl
  have y2 := q1.cell 2 _ rfl
  have y3 := q1.cell 3 _ rfl
  have y4 := q1.cell 4 _ rfl
  have u0 := q1.frozen 0
  have u1 := q1.frozen 1
  have u2 := q1.frozen 2
  have u3 := q1.frozen 3
  have u4 := q1.frozen 4
  have z0 := q2.cell 0 _ rfl
  have z1 := q2.cell 1 _ rfl
  have z2 := q2.cell 2 _ rfl
  have z3 := q2.cell 3 _ rfl
  have z4 := q2.cell 4 _ rfl
  have v2 := q2.frozen 2
  have v3 := q2.frozen 3
  have v4 := q2.frozen 4
  clear hS1 hS2 hB2 hB0 hZ0 hz2 b0 b1 b2 q0 q1 q2 HW2 HE
  go_wp2_with fail
  refine bodyPost_ret (v := .agg #[.int .i64 kind, .slice a1 path.length path.length, .slice a2 dst.length dst.length, .int .i64 num, .string data]) (by simp [results, Tryd.results6, go_sem, y0, y1, y2, y3, y4]) rfl ⟨a1, a2, w.heap.size + 3, w.heap.size + 4, rfl, by omega, ?_, ?_⟩
  · obtain ⟨_, r1, r2, r3⟩ := HQ2.out
    refine ⟨ownStrs_at r2 ?_, ownStrs_at r3 ?_, by omega, ?_⟩
    · iterate 8 rw [Below.heap_setCell _ _ _ _ (by simp)]
    · iterate 8 rw [Below.heap_setCell _ _ _ _ (by simp)]
    · simp [World.setCell]; omega
  · have r0 := HQ2.out.1
    iterate 8 refine Below.setCell ?_ (by simp only []; omega) _
    exact r0

set_option maxHeartbeats 1000000 in
theorem eqCall_any (c : Cl) (pa pa' : Option Addr) (pc pc' : Nat) (ta ta' : Option Addr) (tc tc' : Nat) (w : World) (lo hi lo' hi' : Nat) (h : ClOk w lo hi c pa pc ta tc) (h' : ClOk w lo' hi' c pa' pc' ta' tc') (hhi : hi ≤ w.heap.size) (hhi' : hi' ≤ w.heap.size) :
    Calls Tryd.prog 8 #[aggC c pa pc ta tc, aggC c pa' pc' ta' tc'] w fun r w' => r = .returned (.bool true) ∧ Below w.heap.size w w' := by
  obtain ⟨kind, path, dst, num, data⟩ := c
  have HC : Hid (∀ W, Below w.heap.size w W → Calls Tryd.prog 21 #[.slice pa path.length pc, .slice pa' path.length pc'] W fun e w' => e = .returned (.bool true) ∧ Below W.heap.size W w') := fun W hW =>
    eqStringS_any path _ _ W lo hi lo' hi' (h.1.keep hW hhi) (h'.1.keep hW hhi') (Nat.le_trans hhi hW.size) (Nat.le_trans hhi' hW.size)
  have HE : Hid (∀ W, Below w.heap.size w W → Calls Tryd.prog 21 #[.slice ta dst.length tc, .slice ta' dst.length tc'] W fun e w' => e = .returned (.bool true) ∧ Below W.heap.size W w') := fun W hW =>
    eqStringS_any dst _ _ W lo hi lo' hi' (h.2.1.keep hW hhi) (h'.2.1.keep hW hhi') (Nat.le_trans hhi hW.size) (Nat.le_trans hhi' hW.size)
  clear h h'
  show Calls Tryd.prog 8 #[.agg #[.int .i64 kind, .slice pa path.length pc, .slice ta dst.length tc, .int .i64 num, .string data], .agg #[.int .i64 kind, .slice pa' path.length pc', .slice ta' dst.length tc', .int .i64 num, .string data]] w _
  have hn1 : (kind != kind) = false := by simp
  have hn2 : (num != num) = false := by simp
  go_enter Tryd.func8, Tryd.ntmps8
  go_wp2_with fail
  generalize hW : (w.alloc (Obj.cells #[.int .i64 kind, .slice pa path.length pc, .slice ta dst.length tc, .int .i64 num, .string data] 27)).alloc (Obj.cells #[.int .i64 kind, .slice pa' path.length pc', .slice ta' dst.length tc', .int .i64 num, .string data] 27) = W
  have HW : Hid (Below w.heap.size w W ∧ Blk W w.heap.size #[.int .i64 kind, .slice pa path.length pc, .slice ta dst.length tc, .int .i64 num, .string data] 27 ∧ Blk W (w.heap.size + 1) #[.int .i64 kind, .slice pa' path.length pc', .slice ta' dst.length tc', .int .i64 num, .string data] 27) := by
    subst hW
    exact ⟨((Below.refl _ _).alloc (Nat.le_refl _) _).alloc (by simp) _, (Blk.new _ _ _).alloc _, blkAt (by simp)⟩
  clear hW
  refine (HC.out W HW.out.1).mono ?_
  rintro e w1 ⟨rfl, hB1⟩
  obtain ⟨hB0, b0, b1⟩ := HW.out
  have HB1 : Hid (Below w.heap.size w w1) := hB0.trans (hB1.mono hB0.size)
  have HQ0 := hide (b0.below hB1 b0.lt)
  have HQ1 := hide (b1.below hB1 b1.lt)
  have x2 := HQ0.out.cell 2 _ rfl
  have y2 := HQ1.out.cell 2 _ rfl
  clear hB0 b0 b1 hB1 HW HC
  go_wp2_with fail
  refine (HE.out w1 HB1.out).mono ?_
  rintro e w2 ⟨rfl, hB2⟩
  have HB2 : Hid (Below w.heap.size w w2) := HB1.out.trans (hB2.mono HB1.out.size)
  have q0 := HQ0.out.below hB2 HQ0.out.lt
  have q1 := HQ1.out.below hB2 HQ1.out.lt
  clear x2 y2
  have x3 := q0.cell 3 _ rfl
  have x4 := q0.cell 4 _ rfl
  have y3 := q1.cell 3 _ rfl
  have y4 := q1.cell 4 _ rfl
  clear hB2 q0 q1 HQ0 HQ1 HE
  go_wp2_with fail
  go_ret
  exact ⟨rfl, HB2.out⟩


end Go.Proofs.YtigammadhpgahaaDoor
