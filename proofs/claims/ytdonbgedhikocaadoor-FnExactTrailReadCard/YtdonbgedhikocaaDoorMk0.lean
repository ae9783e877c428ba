/- Marks of trails: how lists of them lie in memory; what the laws count of them, their copies and their comparison. -/
import Derived.Test.YtdonbgedhikocaaDoorLow
import Derived.Test.YtdonbgedhikocaaDoorEq
namespace Go.Proofs.YtdonbgedhikocaaDoor
open Go.RowKit

structure Mk where
  path : List ByteArray
  sub : Bool
/-- The value is a slice of these marks, two cells each. -/
def MksAt (w : World) (lo hi : Nat) (v : Value) (l : List Mk) : Prop :=
  ∃ a cap, v = .slice a l.length cap ∧ l.length ≤ maxLen ∧
    (0 < l.length → ∃ b o, a = some ⟨b, o, none⟩ ∧ lo ≤ b ∧ b < hi ∧ ∀ (i : Nat) (h : i < l.length), ∃ pa pc,
      w.cell? ⟨b, o + i * 2, none⟩ = some (.slice pa l[i].path.length pc) ∧ w.cell? ⟨b, o + i * 2 + 1, none⟩ = some (.bool l[i].sub) ∧ StrsAt w lo hi (.slice pa l[i].path.length pc) l[i].path)
theorem MksAt.keep {w w' : World} {lo hi B : Nat} {v : Value} {l : List Mk} (h : MksAt w lo hi v l) (hb : Below B w w') (hB : hi ≤ B) : MksAt w' lo hi v l := by
  obtain ⟨a, cap, hv, hl, hc⟩ := h
  refine ⟨a, cap, hv, hl, fun h0 => ?_⟩
  obtain ⟨b, o, ha, h1, h2, hcell⟩ := hc h0
  refine ⟨b, o, ha, h1, h2, fun i hi => ?_⟩
  obtain ⟨pa, pc, c0, c1, hr⟩ := hcell i hi
  exact ⟨pa, pc, by rw [hb.cell (p := ⟨b, o + i * 2, none⟩) (by show b < B; omega)]; exact c0, by rw [hb.cell (p := ⟨b, o + i * 2 + 1, none⟩) (by show b < B; omega)]; exact c1, hr.keep hb hB⟩


/-- The same, no path's capacity below its length. -/
def McsAt (w : World) (lo hi : Nat) (v : Value) (l : List Mk) : Prop :=
  ∃ a cap, v = .slice a l.length cap ∧ l.length ≤ maxLen ∧
    (0 < l.length → ∃ b o, a = some ⟨b, o, none⟩ ∧ lo ≤ b ∧ b < hi ∧ ∀ (i : Nat) (h : i < l.length), ∃ pa pc, (l[i].path.length ≤ pc ∧ pc ≤ maxLen) ∧
      w.cell? ⟨b, o + i * 2, none⟩ = some (.slice pa l[i].path.length pc) ∧ w.cell? ⟨b, o + i * 2 + 1, none⟩ = some (.bool l[i].sub) ∧ StrsAt w lo hi (.slice pa l[i].path.length pc) l[i].path)
theorem McsAt.mks {w : World} {lo hi : Nat} {v : Value} {l : List Mk} (h : McsAt w lo hi v l) : MksAt w lo hi v l := by
  obtain ⟨a, cap, hv, hl, hc⟩ := h
  refine ⟨a, cap, hv, hl, fun h0 => ?_⟩
  obtain ⟨b, o, ha, g1, g2, hcell⟩ := hc h0
  refine ⟨b, o, ha, g1, g2, fun i hi => ?_⟩
  obtain ⟨pa, pc, _, c0, c1, hr⟩ := hcell i hi
  exact ⟨pa, pc, c0, c1, hr⟩
theorem McsAt.keep {w w' : World} {lo hi B : Nat} {v : Value} {l : List Mk} (h : McsAt w lo hi v l) (hb : Below B w w') (hB : hi ≤ B) : McsAt w' lo hi v l := by
  obtain ⟨a, cap, hv, hl, hc⟩ := h
  refine ⟨a, cap, hv, hl, fun h0 => ?_⟩
  obtain ⟨b, o, ha, h1, h2, hcell⟩ := hc h0
  refine ⟨b, o, ha, h1, h2, fun i hi => ?_⟩
  obtain ⟨pa, pc, hp, c0, c1, hr⟩ := hcell i hi
  exact ⟨pa, pc, hp, by rw [hb.cell (p := ⟨b, o + i * 2, none⟩) (by show b < B; omega)]; exact c0, by rw [hb.cell (p := ⟨b, o + i * 2 + 1, none⟩) (by show b < B; omega)]; exact c1, hr.keep hb hB⟩

theorem MksAt.wide {w : World} {lo hi lo' hi' : Nat} {v : Value} {l : List Mk} (h : MksAt w lo hi v l) (h1 : lo' ≤ lo) (h2 : hi ≤ hi') : MksAt w lo' hi' v l := by
  obtain ⟨a, cap, hv, hl, hc⟩ := h
  refine ⟨a, cap, hv, hl, fun h0 => ?_⟩
  obtain ⟨b, o, ha, g1, g2, hcell⟩ := hc h0
  refine ⟨b, o, ha, by omega, by omega, fun i hi => ?_⟩
  obtain ⟨pa, pc, c0, c1, hr⟩ := hcell i hi
  exact ⟨pa, pc, c0, c1, hr.wide h1 h2⟩



set_option maxHeartbeats 1000000 in
theorem eqMark_any (m : Mk) (pa pa' : Option Addr) (pc pc' : Nat) (w : World) (lo hi lo' hi' : Nat) (h : StrsAt w lo hi (.slice pa m.path.length pc) m.path) (h' : StrsAt w lo' hi' (.slice pa' m.path.length pc') m.path) (hhi : hi ≤ w.heap.size) (hhi' : hi' ≤ w.heap.size) :
    Calls Tryd.prog 16 #[.agg #[.slice pa m.path.length pc, .bool m.sub], .agg #[.slice pa' m.path.length pc', .bool m.sub]] w fun r w' => r = .returned (.bool true) ∧ Below w.heap.size w w' := by
  obtain ⟨path, sub⟩ := m
  have HC : Hid (∀ W, Below w.heap.size w W → Calls Tryd.prog 26 #[.slice pa path.length pc, .slice pa' path.length pc'] W fun e w' => e = .returned (.bool true) ∧ Below W.heap.size W w') := fun W hW =>
    eqStringS_any path _ _ W lo hi lo' hi' (h.keep hW hhi) (h'.keep hW hhi') (Nat.le_trans hhi hW.size) (Nat.le_trans hhi' hW.size)
  clear h h'
  show Calls Tryd.prog 16 #[.agg #[.slice pa path.length pc, .bool sub], .agg #[.slice pa' path.length pc', .bool sub]] w _
  have hn1 : (sub != sub) = false := by simp
  go_enter Tryd.func16, Tryd.ntmps16
  go_wp2_with fail
  generalize hW : (w.alloc (Obj.cells #[.slice pa path.length pc, .bool sub] 31)).alloc (Obj.cells #[.slice pa' path.length pc', .bool sub] 31) = W
  have HW : Hid (Below w.heap.size w W ∧ Blk W w.heap.size #[.slice pa path.length pc, .bool sub] 31 ∧ Blk W (w.heap.size + 1) #[.slice pa' path.length pc', .bool sub] 31) := by
    subst hW
    exact ⟨((Below.refl _ _).alloc (Nat.le_refl _) _).alloc (by simp) _, (Blk.new _ _ _).alloc _, Blk.atn (by simp)⟩
  clear hW
  refine (HC.out W HW.out.1).mono ?_
  rintro e w1 ⟨rfl, hB1⟩
  obtain ⟨hB0, b0, b1⟩ := HW.out
  have HB1 : Hid (Below w.heap.size w w1) := hB0.trans (hB1.mono hB0.size)
  have q0 := b0.below hB1 b0.lt
  have q1 := b1.below hB1 b1.lt
  have x1 := q0.cell 1 _ rfl
  have y1 := q1.cell 1 _ rfl
  clear hB0 b0 b1 hB1 q0 q1 HW HC
  go_wp2_with fail
  go_ret
  exact ⟨rfl, HB1.out⟩

set_option maxHeartbeats 2000000 in
theorem eqMarkS_any (l : List Mk) (v v' : Value) (w : World) (lo hi lo' hi' : Nat) (hv : MksAt w lo hi v l) (hv' : MksAt w lo' hi' v' l) (hhi : hi ≤ w.heap.size) (hhi' : hi' ≤ w.heap.size) :
    Calls Tryd.prog 6 #[v, v'] w fun e w' => e = .returned (.bool true) ∧ Below w.heap.size w w' := by
  obtain ⟨a, cap, rfl, hl, hc⟩ := hv
  obtain ⟨a', cap', rfl, _, hc'⟩ := hv'
  unfold maxLen at hl
  go_enter Tryd.func6, Tryd.ntmps6
  go_wp2
  go_loopw [5] (fun i wr => ∃ (k : Nat), k ≤ l.length ∧ i = .int .i64 k ∧ Hid (Below w.heap.size w wr)) (fun i _ => l.length - (intOf i).toNat)
  case atStart => exact ⟨0, Nat.zero_le _, rfl, Below.refl _ _⟩
  case round =>
    obtain ⟨k, hk, rfl, HB⟩ := hrel
    by_cases hlt : k < l.length
    · obtain ⟨b, o, rfl, hb1, hb2, hcell⟩ := hc (by omega)
      obtain ⟨b', o', rfl, hb1', hb2', hcell'⟩ := hc' (by omega)
      obtain ⟨pa, pc, c0, c1, hr⟩ := hcell k hlt
      obtain ⟨pa', pc', d0, d1, hr'⟩ := hcell' k hlt
      rw [← HB.out.cell (p := ⟨b, _, none⟩) (by show b < w.heap.size; omega)] at c0 c1
      rw [← HB.out.cell (p := ⟨b', _, none⟩) (by show b' < w.heap.size; omega)] at d0 d1
      have hd : (k : Int) < (l.length : Int) := by omega
      have HC : Hid (∀ w1, Below w.heap.size w w1 → Calls Tryd.prog 16 #[.agg #[.slice pa l[k].path.length pc, .bool l[k].sub], .agg #[.slice pa' l[k].path.length pc', .bool l[k].sub]] w1 fun e w' => e = .returned (.bool true) ∧ Below w.heap.size w w') := fun w1 h1 =>
        (eqMark_any l[k] pa pa' pc pc' w1 lo hi lo' hi' (hr.keep h1 hhi) (hr'.keep h1 hhi') (Nat.le_trans hhi h1.size) (Nat.le_trans hhi' h1.size)).mono fun e w' ⟨h, h2⟩ => ⟨h, h1.trans (h2.mono h1.size)⟩
      clear hc hc' hcell hcell' hr hr'
      go_wp2
      go_region_with (go_at_call 16; refine (HC.out _ (by first | exact HB.out.drew | exact HB.out)).mono ?_; rintro e w1 ⟨rfl, hB1⟩; have HB1 : Hid (Below w.heap.size w w1) := hB1; clear hB1)
      all_goals
        go_wp2
        go_roundw
        case rel => exact ⟨k + 1, by omega, by go_num, HB1⟩
        case measure => simp [intOf]; omega
    · go_wp2
      go_ret
      exact ⟨rfl, HB.out⟩

end Go.Proofs.YtdonbgedhikocaaDoor
