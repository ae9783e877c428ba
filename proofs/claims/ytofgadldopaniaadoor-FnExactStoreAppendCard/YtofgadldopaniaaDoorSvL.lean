/- Stores in the laws: what they count of one, their copies, comparison, marks, and what they hold. -/
import Derived.Test.YtofgadldopaniaaDoorSvG
import Derived.Test.YtofgadldopaniaaDoorSzN
import Derived.Test.YtofgadldopaniaaDoorHeld
namespace Go.Proofs.YtofgadldopaniaaDoor
open Go.RowKit

theorem ownStrs_other {w : World} {lo hi b : Nat} {v : Value} {l : List ByteArray} (h : OwnStrs w lo hi b v l) (p : Addr) (u : Value) (hp : p.block < lo) : OwnStrs (w.setCell p u) lo hi b v l :=
  h.same fun k h1 _ => Below.heap_setCell _ _ _ _ (by omega)

def szS (s : St) (left : Int) : Int := if left - s.text.size < 0 then -1 else szStrs s.groups (left - s.text.size)
theorem szS_fits (s : St) (h : 0 ≤ szS s 1048576) : s.text.size ≤ 1048576 ∧ s.groups.length ≤ 1048576 := by
  unfold szS at h
  split at h
  · omega
  · have := szStrs_fits _ _ h
    omega

set_option maxHeartbeats 1000000 in
theorem szStore_any (s : St) (gv : Value) (w : World) (lo hi : Nat) (hv : StrsAt w lo hi gv s.groups) (hhi : hi ≤ w.heap.size) (ht : s.text.size ≤ maxLen) :
    Calls Tryd.prog 11 #[stV s gv, .int .i64 1048576] w fun e w' => e = .returned (.int .i64 (szS s 1048576)) ∧ Below w.heap.size w w' := by
  obtain ⟨gen, text, groups, next⟩ := s
  have hv : StrsAt w lo hi gv groups := hv
  have ht : text.size ≤ maxLen := ht
  unfold maxLen at ht
  show Calls Tryd.prog 11 #[.agg #[.int .i64 gen, .string text, gv, .int .i64 next], .int .i64 1048576] w _
  have HB : Hid (∀ o, Below w.heap.size w (w.alloc o)) := fun o => (Below.refl _ _).alloc (Nat.le_refl _) o
  have HV : Hid (szS ⟨gen, text, groups, next⟩ 1048576 = if 1048576 - (text.size : Int) < 0 then -1 else szStrs groups (1048576 - (text.size : Int))) := rfl
  generalize szS ⟨gen, text, groups, next⟩ 1048576 = r at *
  by_cases hneg : 1048576 - (text.size : Int) < 0
  · obtain ⟨a, cap, rfl, hl, _⟩ := hv
    have hr : r = -1 := by rw [HV.out, if_pos hneg]
    subst hr
    clear HV
    go_enter Tryd.func11, Tryd.ntmps11
    go_wp2_with fail
    go_ret
    exact ⟨rfl, HB.out _⟩
  · have hr : r = szStrs groups (1048576 - (text.size : Int)) := by rw [HV.out, if_neg hneg]
    have HC : Hid (∀ W, Below w.heap.size w W → Calls Tryd.prog 25 #[gv, .int .i64 (1048576 - (text.size : Int))] W fun e w' => e = .returned (.int .i64 (szStrs groups (1048576 - (text.size : Int)))) ∧ w' = W) := fun W hb => szStringS_any groups gv _ W lo hi (hv.keep hb hhi) (by omega) (by omega)
    have HN := hide (szStrs_neg groups (1048576 - (text.size : Int)))
    obtain ⟨a, cap, rfl, hl, _⟩ := hv
    subst hr
    clear HV
    generalize szStrs groups (1048576 - (text.size : Int)) = r at *
    go_enter Tryd.func11, Tryd.ntmps11
    go_wp2_with fail
    refine (HC.out _ (HB.out _)).mono ?_
    rintro e w1 ⟨rfl, rfl⟩
    by_cases hn : r < 0
    · have hr := HN.out hn
      subst hr
      go_wp2_with fail
      go_ret
      exact ⟨rfl, HB.out _⟩
    · go_wp2_with fail
      go_ret
      exact ⟨rfl, HB.out _⟩

set_option maxHeartbeats 1000000 in
theorem toStore_any (s : St) (gv : Value) (w : World) (lo hi : Nat) (hv : StrsAt w lo hi gv s.groups) (hhi : hi ≤ w.heap.size) (hl : s.groups.length ≤ 1048576) :
    Calls Tryd.prog 13 #[stV s gv] w fun e w' => ∃ a c b, e = .returned (stV s (.slice a s.groups.length c)) ∧ OwnStrs w' w.heap.size w'.heap.size b (.slice a s.groups.length c) s.groups ∧ Below w.heap.size w w' := by
  obtain ⟨gen, text, groups, next⟩ := s
  have hv : StrsAt w lo hi gv groups := hv
  have hl : groups.length ≤ 1048576 := hl
  show Calls Tryd.prog 13 #[.agg #[.int .i64 gen, .string text, gv, .int .i64 next]] w _
  have HC : Hid (∀ W, Below w.heap.size w W → Calls Tryd.prog 31 #[gv] W fun e w' => ∃ v', e = .returned v' ∧ OwnStrs w' W.heap.size w'.heap.size W.heap.size v' groups ∧ Below W.heap.size W w' ∧ w'.heap.size = W.heap.size + 1) := fun W hb => toStringS_any groups gv W lo hi (hv.keep hb hhi) (Nat.le_trans hhi hb.size) hl
  obtain ⟨a, cap, rfl, _⟩ := hv
  have HA : Hid (∀ o1 o2 o3, Below w.heap.size w (((w.alloc o1).alloc o2).alloc o3)) := fun o1 o2 o3 => (((Below.refl _ _).alloc (Nat.le_refl _) o1).alloc (by simp) o2).alloc (by simp; omega) o3
  go_enter Tryd.func13, Tryd.ntmps13
  go_wp2_with fail
  generalize hW : ((w.alloc (Obj.cells #[.int .i64 gen, .string text, .slice a groups.length cap, .int .i64 next] 30)).alloc (Obj.cells #[.int .i64 0, .string ⟨#[]⟩, .slice none 0 0, .int .i64 0] 32)).alloc (Obj.cells #[.int .i64 gen, .string text, .slice none 0 0, .int .i64 0] 32) = W
  have HW : Hid (Below w.heap.size w W ∧ W.heap.size = w.heap.size + 3 ∧ Blk W (w.heap.size + 1) #[.int .i64 0, .string ⟨#[]⟩, .slice none 0 0, .int .i64 0] 32 ∧ Blk W (w.heap.size + 1 + 1) #[.int .i64 gen, .string text, .slice none 0 0, .int .i64 0] 32 ∧ Blk W w.heap.size #[.int .i64 gen, .string text, .slice a groups.length cap, .int .i64 next] 30) := by
    subst hW
    refine ⟨HA.out _ _ _, by simp, ?_, ?_, ?_⟩
    · exact (Blk.atn (by simp)).alloc _
    · exact Blk.atn (by simp)
    · exact ((Blk.new _ _ _).alloc _).alloc _
  clear HA hW
  refine (HC.out W HW.out.1).mono ?_
  rintro e w1 ⟨v1, rfl, hO1, hB1, hS1⟩
  have HO1 := hide hO1
  obtain ⟨⟨a1, cap1, rfl, _⟩, _⟩ := hO1
  have q0 := HW.out.2.2.2.2.below hB1 (by rw [HW.out.2.1]; omega)
  have q1 := HW.out.2.2.1.below hB1 (by rw [HW.out.2.1]; omega)
  have q2 := HW.out.2.2.2.1.below hB1 (by rw [HW.out.2.1]; omega)
  have HF : Hid (Below w.heap.size w w1 ∧ W.heap.size = w.heap.size + 3) := ⟨HW.out.1.trans (hB1.mono HW.out.1.size), HW.out.2.1⟩
  have u3 := q0.cell 3 _ rfl
  have x0 := q1.cell 0 _ rfl
  have x1 := q1.cell 1 _ rfl
  have x2 := q1.cell 2 _ rfl
  have x3 := q1.cell 3 _ rfl
  have f0 := q1.frozen 0
  have f1 := q1.frozen 1
  have f2 := q1.frozen 2
  have f3 := q1.frozen 3
  have y0 := q2.cell 0 _ rfl
  have y1 := q2.cell 1 _ rfl
  have y2 := q2.cell 2 _ rfl
  have y3 := q2.cell 3 _ rfl
  have g2 := q2.frozen 2
  have g3 := q2.frozen 3
  clear hB1 hS1 q0 q1 q2 HW HC
  go_wp2_with fail
  refine bodyPost_ret (v := .agg #[.int .i64 gen, .string text, .slice a1 groups.length cap1, .int .i64 next]) (by simp [results, Tryd.results13, go_sem, x0, x1, x2, x3]) rfl ⟨_, _, W.heap.size, rfl, ?_, ?_⟩
  · have h3 := HF.out.2
    refine ownStrs_wide (lo := W.heap.size) (hi := w1.heap.size) ?_ (by omega) (by simp [World.setCell])
    repeat (refine ownStrs_other ?_ _ _ (by show _ < _; rw [h3]; simp; try omega))
    exact HO1.out
  · repeat (refine Below.setCell ?_ (by show _ ≤ _; simp; try omega) _)
    exact HF.out.1

set_option maxHeartbeats 1000000 in
theorem eqStore_any (s : St) (gv gv' : Value) (w : World) (lo hi lo' hi' : Nat) (hv : StrsAt w lo hi gv s.groups) (hv' : StrsAt w lo' hi' gv' s.groups) (hhi : hi ≤ w.heap.size) (hhi' : hi' ≤ w.heap.size) :
    Calls Tryd.prog 15 #[stV s gv, stV s gv'] w fun e w' => e = .returned (.bool true) ∧ Below w.heap.size w w' := by
  obtain ⟨gen, text, groups, next⟩ := s
  have hv : StrsAt w lo hi gv groups := hv
  have hv' : StrsAt w lo' hi' gv' groups := hv'
  show Calls Tryd.prog 15 #[.agg #[.int .i64 gen, .string text, gv, .int .i64 next], .agg #[.int .i64 gen, .string text, gv', .int .i64 next]] w _
  have HC : Hid (∀ W, Below w.heap.size w W → Calls Tryd.prog 37 #[gv, gv'] W fun e w' => e = .returned (.bool true) ∧ Below W.heap.size W w') := fun W hb => eqStringS_any groups gv gv' W lo hi lo' hi' (hv.keep hb hhi) (hv'.keep hb hhi') (Nat.le_trans hhi hb.size) (Nat.le_trans hhi' hb.size)
  obtain ⟨a, cap, rfl, _⟩ := hv
  obtain ⟨a', cap', rfl, _⟩ := hv'
  have HA : Hid (∀ o1 o2, Below w.heap.size w ((w.alloc o1).alloc o2)) := fun o1 o2 => ((Below.refl _ _).alloc (Nat.le_refl _) o1).alloc (by simp) o2
  have HB0 : Hid (∀ A t o2, Blk ((w.alloc (.cells A t)).alloc o2) w.heap.size A t) := fun A t o2 => (Blk.new _ _ _).alloc _
  have HB1 : Hid (∀ o1 A t, Blk ((w.alloc o1).alloc (.cells A t)) (w.heap.size + 1) A t) := fun o1 A t => Blk.atn (by simp)
  have hn1 : (gen != gen) = false := by simp
  have hn2 : (next != next) = false := by simp
  go_enter Tryd.func15, Tryd.ntmps15
  go_wp2_with fail
  refine (HC.out _ (HA.out _ _)).mono ?_
  rintro e w1 ⟨rfl, hB1⟩
  have q0 := ((HB0.out _ _ _).below hB1 (HB0.out _ _ _).lt).cell 3 _ rfl
  have q1 := ((HB1.out _ _ _).below hB1 (HB1.out _ _ _).lt).cell 3 _ rfl
  have HB1 : Hid (Below w.heap.size w w1) := (HA.out _ _).trans (hB1.mono (HA.out _ _).size)
  clear hB1
  go_wp2_with fail
  go_ret
  exact ⟨rfl, HB1.out⟩

set_option maxHeartbeats 1000000 in
theorem markStore_any (s : St) (gv : Value) (b k : Nat) (w : World) (lo hi : Nat) (ho : OwnStrs w lo hi b gv s.groups) (hhi : hi ≤ w.heap.size) (hk0 : 0 < k) (hk : k + s.groups.length ≤ 1073741824) :
    Calls Tryd.prog 16 #[stV s gv, .int .i64 (k : Int)] w fun e w' => ∃ n : Nat, e = .returned (.int .i64 (n : Int)) ∧ n = k + s.groups.length ∧ OwnStrs w' lo hi b gv (markL k s.groups) ∧ InR lo hi w w' := by
  obtain ⟨gen, text, groups, next⟩ := s
  have ho : OwnStrs w lo hi b gv groups := ho
  have hk : k + groups.length ≤ 1073741824 := hk
  show Calls Tryd.prog 16 #[.agg #[.int .i64 gen, .string text, gv, .int .i64 next], .int .i64 (k : Int)] w (fun e w' => ∃ n : Nat, e = .returned (.int .i64 (n : Int)) ∧ n = k + groups.length ∧ OwnStrs w' lo hi b gv (markL k groups) ∧ InR lo hi w w')
  have HM : Hid (∀ o, Calls Tryd.prog 38 #[gv, .int .i64 (k : Int)] (w.alloc o) fun e w' => ∃ n : Nat, e = .returned (.int .i64 (n : Int)) ∧ n = k + groups.length ∧ OwnStrs w' lo hi b gv (markL k groups) ∧ InR lo hi w w') := fun o =>
    (markStringS_any groups gv b k (w.alloc o) lo hi (ho.same (sameIn_below ((Below.refl _ _).alloc (Nat.le_refl _) o) hhi)) (by simp; omega) hk0 hk).mono fun e w' ⟨h1, h2, h3, _⟩ =>
      ⟨k + groups.length, h1, rfl, h2, (InR.of_below ((Below.refl _ _).alloc (Nat.le_refl _) o)).trans h3⟩
  obtain ⟨⟨a, cap, rfl, _⟩, _⟩ := ho
  go_enter Tryd.func16, Tryd.ntmps16
  go_wp2_with fail
  refine (HM.out _).mono ?_
  rintro e w1 ⟨n, rfl, hn, hO, hI⟩
  have HF := hide (And.intro hn (And.intro hO hI))
  clear hn hO hI
  go_wp2_with fail
  go_ret
  exact ⟨n, rfl, HF.out.1, HF.out.2.1, HF.out.2.2⟩

set_option maxHeartbeats 1000000 in
theorem heldStore_any (s : St) (gv : Value) (k n : Nat) (hn : n = k + s.groups.length) (w : World) (lo hi : Nat) (hv : StrsAt w lo hi gv (markL k s.groups)) (hhi : hi ≤ w.heap.size) (hk0 : 0 < k) (hk : k + s.groups.length ≤ 1073741824) :
    Calls Tryd.prog 17 #[stV s gv, .int .i64 (k : Int)] w fun e w' => e = .returned (.int .i64 (n : Int)) ∧ Below w.heap.size w w' := by
  obtain ⟨gen, text, groups, next⟩ := s
  have hv : StrsAt w lo hi gv (markL k groups) := hv
  have hk : k + groups.length ≤ 1073741824 := hk
  have hn : n = k + groups.length := hn
  show Calls Tryd.prog 17 #[.agg #[.int .i64 gen, .string text, gv, .int .i64 next], .int .i64 (k : Int)] w _
  have HA : Hid (∀ o, Below w.heap.size w (w.alloc o)) := fun o => (Below.refl _ _).alloc (Nat.le_refl _) o
  have HM : Hid (∀ o, Calls Tryd.prog 39 #[gv, .int .i64 (k : Int)] (w.alloc o) fun e w' => e = .returned (.int .i64 (n : Int)) ∧ Below w.heap.size w w') := fun o =>
    (heldStringS_any groups gv k (w.alloc o) lo hi (hv.keep (HA.out o) hhi) (Nat.le_trans hhi (HA.out o).size) hk0 hk).mono fun e w' ⟨h1, h2⟩ =>
      ⟨by rw [h1, hn], (HA.out o).trans (h2.mono (HA.out o).size)⟩
  obtain ⟨a, cap, rfl, _⟩ := hv
  clear hn
  clear hn
  have hn0 : ¬ ((n : Int) < 0) := by omega
  go_enter Tryd.func17, Tryd.ntmps17
  go_wp2_with fail
  refine (HM.out _).mono ?_
  rintro e w1 ⟨rfl, hB⟩
  have HB := hide hB
  clear hB
  go_wp2_with fail
  go_ret
  exact ⟨rfl, HB.out⟩

end Go.Proofs.YtofgadldopaniaaDoor
