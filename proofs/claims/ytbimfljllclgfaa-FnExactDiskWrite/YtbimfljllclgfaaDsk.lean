/- Disks: the laws' own count, copy and comparison of one, and when one is ok: the program's DiskOk and the specification's answer diskB. -/
import Derived.Test.YtbimfljllclgfaaProg
import Derived.Test.YtbimfljllclgfaaSz
import Derived.Test.YtbimfljllclgfaaTo
import Derived.Test.YtbimfljllclgfaaEq
import Derived.Test.YtbimfljllclgfaaLow
namespace Go.Proofs.Ytbimfljllclgfaa
open Go.RowKit

theorem szLoop_neg : ∀ (l : List ByteArray) (L : Int), 0 ≤ L → szLoop l L < 0 → szLoop l L = -1
  | [], L, h0, h => by rw [szLoop] at h; omega
  | s :: r, L, h0, h => by
    rw [szLoop] at h ⊢
    split
    · rfl
    · rename_i hn
      rw [if_neg hn] at h
      exact szLoop_neg r _ (by omega) h
theorem szStrs_neg (l : List ByteArray) (L : Int) (h : szStrs l L < 0) : szStrs l L = -1 := by
  rw [szStrs] at h ⊢
  split
  · rfl
  · rename_i hn
    rw [if_neg hn] at h
    exact szLoop_neg l _ (by omega) h
theorem szStrs_fits (l : List ByteArray) (L : Int) (h : 0 ≤ szStrs l L) : (l.length : Int) ≤ L := by
  rw [szStrs] at h
  split at h <;> omega

set_option maxHeartbeats 1000000 in
theorem szDisk_any (l : List ByteArray) (v : Value) (left : Int) (w : World) (lo hi : Nat) (hv : StrsAt w lo hi v l) (hhi : hi ≤ w.heap.size) (h0 : 0 ≤ left) (h1 : left ≤ 1048576) :
    Calls Try.prog 4 #[.agg #[v], .int .i64 left] w fun e w' => e = .returned (.int .i64 (szStrs l left)) ∧ Below w.heap.size w w' := by
  have HC : Hid (∀ W, Below w.heap.size w W → Calls Try.prog 15 #[v, .int .i64 left] W fun e w' => e = .returned (.int .i64 (szStrs l left)) ∧ w' = W) := fun W hb => szStringS_any l v left W lo hi (hv.keep hb hhi) h0 h1
  have HN := hide (szStrs_neg l left)
  have HB : Hid (∀ o, Below w.heap.size w (w.alloc o)) := fun o => (Below.refl _ _).alloc (Nat.le_refl _) o
  obtain ⟨a, cap, rfl, hl, _⟩ := hv
  generalize szStrs l left = r at *
  go_enter Try.func4, Try.ntmps4
  go_wp2_with fail
  refine (HC.out _ (HB.out _)).mono ?_
  rintro e w1 ⟨rfl, rfl⟩
  by_cases hn : r < 0
  · have hr := HN.out hn
    subst hr
    go_wp2_with fail
    go_ret
    exact ⟨rfl, HB.out _⟩
  · go_wp2_with fail
    go_ret
    exact ⟨rfl, HB.out _⟩

theorem ret_bool {a b : Bool} (h : a = b) : Ending.returned (.bool a) = .returned (.bool b) := by rw [h]

/-- A disk: 194 blocks, each of at most 64 bytes. -/
def diskB (l : List ByteArray) : Bool := decide (l.length = 194) && l.all (fun s => decide (s.size ≤ 64))

theorem diskB_no (l : List ByteArray) (k : Nat) (h : k < l.length) (hn : ¬ l[k].size ≤ 64) : diskB l = false := by
  rw [diskB, Bool.and_eq_false_iff]
  refine .inr (List.all_eq_false.2 ⟨l[k], List.getElem_mem h, by simpa using hn⟩)
theorem diskB_len (l : List ByteArray) (h : l.length ≠ 194) : diskB l = false := by
  rw [diskB, Bool.and_eq_false_iff]
  exact .inl (by simpa using h)
theorem diskB_yes (l : List ByteArray) (h : l.length = 194) (hs : ∀ (k : Nat) (hk : k < l.length), l[k].size ≤ 64) : diskB l = true := by
  rw [diskB, Bool.and_eq_true]
  refine ⟨by simpa using h, List.all_eq_true.2 fun x hx => ?_⟩
  obtain ⟨k, hk, rfl⟩ := List.getElem_of_mem hx
  simpa using hs k hk
theorem diskB_out (l : List ByteArray) (h : diskB l = true) : l.length = 194 ∧ ∀ (k : Nat) (hk : k < l.length), l[k].size ≤ 64 := by
  rw [diskB, Bool.and_eq_true] at h
  refine ⟨by simpa using h.1, fun k hk => ?_⟩
  simpa using List.all_eq_true.1 h.2 l[k] (List.getElem_mem hk)

set_option maxHeartbeats 1000000 in
theorem specDiskOk_any (l : List ByteArray) (v : Value) (w : World) (lo hi : Nat) (hv : StrsAt w lo hi v l) (hhi : hi ≤ w.heap.size) :
    Calls Try.prog 17 #[.agg #[v]] w fun e w' => e = .returned (.bool (diskB l)) ∧ Below w.heap.size w w' := by
  obtain ⟨a, cap, rfl, hl, hs, hc⟩ := hv
  unfold maxLen at hl hs
  go_enter Try.func17, Try.ntmps17
  go_wp2_with fail
  generalize hW : w.alloc (Obj.cells #[.slice a l.length cap] 28) = W
  have HW : Hid (Below w.heap.size w W) := by subst hW; exact (Below.refl _ _).alloc (Nat.le_refl _) _
  have c0 : W.cell? ⟨w.heap.size, 0, none⟩ = some (.slice a l.length cap) := by subst hW; exact (Blk.new w _ _).cell 0 _ rfl
  clear hW
  go_loop [3] (fun i => ∃ (k : Nat), k ≤ l.length ∧ i = .int .i64 k ∧ Hid (∀ (j : Nat) (hj : j < l.length), j < k → l[j].size ≤ 64)) (fun i => l.length - (intOf i).toNat)
  case atStart => exact ⟨0, Nat.zero_le _, rfl, fun j _ h => by omega⟩
  case round =>
    obtain ⟨k, hk, rfl, HK⟩ := hrel
    by_cases hlt : k < l.length
    · obtain ⟨b, o, rfl, hb1, hb2, hcell⟩ := hc (by omega)
      have hck := hcell k hlt
      rw [← HW.out.cell (p := ⟨b, _, none⟩) (by show b < w.heap.size; omega)] at hck
      have hsk := hs k hlt
      clear hc hcell hs
      by_cases h64 : l[k].size ≤ 64
      · go_wp2
        go_round
        case rel =>
          refine ⟨k + 1, by omega, by go_num, fun j hj hjk => ?_⟩
          by_cases e : j = k
          · subst e; exact h64
          · exact HK.out j hj (by omega)
        case measure => simp [intOf]; omega
      · have HR := hide (diskB_no l k hlt h64)
        go_wp2
        go_ret
        exact ⟨by rw [HR.out]; rfl, HW.out⟩
    · clear hc hs
      by_cases h194 : l.length = 194
      · have HR := hide (diskB_yes l h194 (fun j hj => HK.out j hj (by omega)))
        have hq : ((l.length : Int) == 194) = true := by simp; omega
        clear h194
        go_wp2
        go_ret
        exact ⟨by rw [HR.out]; first | rfl | exact ret_bool hq, HW.out⟩
      · have HR := hide (diskB_len l h194)
        have hq : ((l.length : Int) == 194) = false := by simp; omega
        go_wp2
        go_ret
        exact ⟨by rw [HR.out]; first | rfl | exact ret_bool hq, HW.out⟩

theorem fits_any (s : ByteArray) (w : World) (hs : s.size ≤ maxLen) :
    Calls Try.prog 31 #[.string s] w fun e w' => e = .returned (.bool (decide (s.size ≤ 64))) ∧ w' = w := by
  unfold maxLen at hs
  by_cases h : s.size ≤ 64
  · go_enter Try.func31, Try.ntmps31
    go_wp2
    go_ret
    exact ⟨by simp [h]; omega, rfl⟩
  · go_enter Try.func31, Try.ntmps31
    go_wp2
    go_ret
    exact ⟨by simp [h]; omega, rfl⟩

set_option maxHeartbeats 1000000 in
theorem implDiskOk_any (l : List ByteArray) (v : Value) (w : World) (lo hi : Nat) (hv : StrsAt w lo hi v l) (hhi : hi ≤ w.heap.size) :
    Calls Try.prog 22 #[.agg #[v]] w fun e w' => e = .returned (.bool (diskB l)) ∧ Below w.heap.size w w' := by
  obtain ⟨a, cap, rfl, hl, hs, hc⟩ := hv
  have HS := hide hs
  unfold maxLen at hl hs
  by_cases h194 : l.length = 194
  case neg =>
    have HR := hide (diskB_len l h194)
    clear hc hs
    go_enter Try.func22, Try.ntmps22
    go_wp2_with fail
    go_ret
    exact ⟨by rw [HR.out]; rfl, (Below.refl _ _).alloc (Nat.le_refl _) _⟩
  have hq : ((l.length : Int) != 194) = false := by simp; omega
  have H194 := hide h194
  clear h194
  go_enter Try.func22, Try.ntmps22
  go_wp2_with fail
  generalize hW : w.alloc (Obj.cells #[.slice a l.length cap] 28) = W
  have HW : Hid (Below w.heap.size w W) := by subst hW; exact (Below.refl _ _).alloc (Nat.le_refl _) _
  clear hW hq
  go_loop [12] (fun i => ∃ (k : Nat), k ≤ l.length ∧ i = .int .i64 k ∧ Hid (∀ (j : Nat) (hj : j < l.length), j < k → l[j].size ≤ 64)) (fun i => l.length - (intOf i).toNat)
  case atStart => exact ⟨0, Nat.zero_le _, rfl, fun j _ h => by omega⟩
  case round =>
    obtain ⟨k, hk, rfl, HK⟩ := hrel
    by_cases hlt : k < l.length
    · obtain ⟨b, o, rfl, hb1, hb2, hcell⟩ := hc (by omega)
      have hck := hcell k hlt
      rw [← HW.out.cell (p := ⟨b, _, none⟩) (by show b < w.heap.size; omega)] at hck
      have HF := hide (fun W => fits_any l[k] W (HS.out k hlt))
      clear hc hcell hs
      by_cases h64 : l[k].size ≤ 64
      · rw [decide_eq_true h64] at HF
        go_wp2_with fail
        refine (HF.out _).mono ?_
        rintro e w1 ⟨rfl, rfl⟩
        go_wp2_with fail
        go_round
        case rel =>
          refine ⟨k + 1, by omega, by go_num, fun j hj hjk => ?_⟩
          by_cases e : j = k
          · subst e; exact h64
          · exact HK.out j hj (by omega)
        case measure => simp [intOf]; omega
      · rw [decide_eq_false h64] at HF
        have HR := hide (diskB_no l k hlt h64)
        go_wp2_with fail
        refine (HF.out _).mono ?_
        rintro e w1 ⟨rfl, rfl⟩
        go_wp2_with fail
        go_ret
        exact ⟨by rw [HR.out]; rfl, HW.out⟩
    · clear hc hs
      have HR := hide (diskB_yes l H194.out (fun j hj => HK.out j hj (by omega)))
      go_wp2_with fail
      go_ret
      exact ⟨by rw [HR.out]; rfl, HW.out⟩

set_option maxHeartbeats 1000000 in
theorem toDisk_any (l : List ByteArray) (v : Value) (w : World) (lo hi : Nat) (hv : StrsAt w lo hi v l) (hhi : hi ≤ w.heap.size) (hl : l.length ≤ 1048576) :
    Calls Try.prog 7 #[.agg #[v]] w fun e w' => ∃ a c, e = .returned (.agg #[.slice a l.length c]) ∧ (∃ b, OwnStrs w' w.heap.size w'.heap.size b (.slice a l.length c) l) ∧ Below w.heap.size w w' := by
  have HC : Hid (∀ W, Below w.heap.size w W → Calls Try.prog 20 #[v] W fun e w' => ∃ v', e = .returned v' ∧ OwnStrs w' W.heap.size w'.heap.size W.heap.size v' l ∧ Below W.heap.size W w' ∧ w'.heap.size = W.heap.size + 1) := fun W hb => toStringS_any l v W lo hi (hv.keep hb hhi) (Nat.le_trans hhi hb.size) hl
  obtain ⟨a, cap, rfl, _⟩ := hv
  have HA : Hid (∀ o1 o2 o3, Below w.heap.size w (((w.alloc o1).alloc o2).alloc o3)) := fun o1 o2 o3 => (((Below.refl _ _).alloc (Nat.le_refl _) o1).alloc (by simp) o2).alloc (by simp; omega) o3
  go_enter Try.func7, Try.ntmps7
  go_wp2_with fail
  generalize hW : ((w.alloc (Obj.cells #[.slice a l.length cap] 24)).alloc (Obj.cells #[.slice none 0 0] 28)).alloc (Obj.cells #[.slice none 0 0] 28) = W
  have HW : Hid (Below w.heap.size w W ∧ W.heap.size = w.heap.size + 3 ∧ Blk W (w.heap.size + 1) #[.slice none 0 0] 28 ∧ Blk W (w.heap.size + 1 + 1) #[.slice none 0 0] 28) := by
    subst hW
    refine ⟨HA.out _ _ _, by simp, ?_, ?_⟩
    · exact (Blk.atn (by simp)).alloc _
    · exact Blk.atn (by simp)
  clear HA hW
  refine (HC.out W HW.out.1).mono ?_
  rintro e w1 ⟨v1, rfl, hO1, hB1, hS1⟩
  have HO1 := hide hO1
  obtain ⟨⟨a1, cap1, rfl, _⟩, _⟩ := hO1
  have q1 := HW.out.2.2.1.below hB1 (by rw [HW.out.2.1]; omega)
  have q2 := HW.out.2.2.2.below hB1 (by rw [HW.out.2.1]; omega)
  have HF : Hid (Below w.heap.size w w1 ∧ W.heap.size = w.heap.size + 3) := ⟨HW.out.1.trans (hB1.mono HW.out.1.size), HW.out.2.1⟩
  have x0 := q1.cell 0 _ rfl
  have x1 := q1.frozen 0
  have y0 := q2.cell 0 _ rfl
  have y1 := q2.frozen 0
  clear hB1 hS1 q1 q2 HW HC
  go_wp2_with fail
  refine bodyPost_ret (v := .agg #[.slice a1 l.length cap1]) (by simp [results, Try.results7, go_sem, x0]) rfl ⟨_, _, rfl, ⟨W.heap.size, ?_⟩, ?_⟩
  · have hs : ∀ k, W.heap.size ≤ k → (((w1.setCell ⟨w.heap.size + 1 + 1, 0, none⟩ (.slice a1 l.length cap1)).setCell ⟨w.heap.size + 1, 0, none⟩ (.slice a1 l.length cap1)).heap[k]? = w1.heap[k]?) := fun k hk => by
      have := HF.out.2
      rw [Below.heap_setCell _ _ _ _ (by show k ≠ w.heap.size + 1; omega), Below.heap_setCell _ _ _ _ (by show k ≠ w.heap.size + 1 + 1; omega)]
    have := HO1.out.same (w' := (w1.setCell ⟨w.heap.size + 1 + 1, 0, none⟩ (.slice a1 l.length cap1)).setCell ⟨w.heap.size + 1, 0, none⟩ (.slice a1 l.length cap1)) (fun k h1 _ => hs k h1)
    have h3 := HF.out.2
    refine ownStrs_wide this (by omega) (by simp [World.setCell])
  · exact (HF.out.1.setCell (p := ⟨w.heap.size + 1 + 1, 0, none⟩) (by show _ ≤ w.heap.size + 1 + 1; omega) _).setCell (p := ⟨w.heap.size + 1, 0, none⟩) (by show _ ≤ w.heap.size + 1; omega) _

set_option maxHeartbeats 1000000 in
theorem eqDisk_any (l : List ByteArray) (v v' : Value) (w : World) (lo hi lo' hi' : Nat) (hv : StrsAt w lo hi v l) (hv' : StrsAt w lo' hi' v' l) (hhi : hi ≤ w.heap.size) (hhi' : hi' ≤ w.heap.size) :
    Calls Try.prog 10 #[.agg #[v], .agg #[v']] w fun e w' => e = .returned (.bool true) ∧ Below w.heap.size w w' := by
  have HC : Hid (∀ W, Below w.heap.size w W → Calls Try.prog 25 #[v, v'] W fun e w' => e = .returned (.bool true) ∧ Below W.heap.size W w') := fun W hb => eqStringS_any l v v' W lo hi lo' hi' (hv.keep hb hhi) (hv'.keep hb hhi') (Nat.le_trans hhi hb.size) (Nat.le_trans hhi' hb.size)
  obtain ⟨a, cap, rfl, _⟩ := hv
  obtain ⟨a', cap', rfl, _⟩ := hv'
  have HA : Hid (∀ o1 o2, Below w.heap.size w ((w.alloc o1).alloc o2)) := fun o1 o2 => ((Below.refl _ _).alloc (Nat.le_refl _) o1).alloc (by simp) o2
  go_enter Try.func10, Try.ntmps10
  go_wp2_with fail
  refine (HC.out _ (HA.out _ _)).mono ?_
  rintro e w1 ⟨rfl, hB1⟩
  have HB1 : Hid (Below w.heap.size w w1) := (HA.out _ _).trans (hB1.mono (HA.out _ _).size)
  clear hB1
  go_wp2_with fail
  go_ret
  exact ⟨rfl, HB1.out⟩

end Go.Proofs.Ytbimfljllclgfaa
