/- Pages and kept names: their values; the laws' comparison, marks, what they hold, count and copy of lists of them. Written by wip/pgs.py. -/
import Derived.Test.YtnahpghbodmdbaaDoorRc3
import Derived.Deep.RegionWith
import Derived.Test.YtnahpghbodmdbaaDoorSzN
import Derived.Test.YtnahpghbodmdbaaDoorTo
namespace Go.Proofs.YtnahpghbodmdbaaDoor
open Go.RowKit

structure Pg where
  used : Bool
  data : ByteArray
  next : Int
structure Pn where
  name : ByteArray
  first : Int
  size : Int
def fPg (p : Pg) : V3 := (.bool p.used, .string p.data, .int .i64 p.next)
def fPn (p : Pn) : V3 := (.string p.name, .int .i64 p.first, .int .i64 p.size)
abbrev aPg (p : Pg) : Value := .agg #[.bool p.used, .string p.data, .int .i64 p.next]
abbrev aPn (p : Pn) : Value := .agg #[.string p.name, .int .i64 p.first, .int .i64 p.size]
def gPg (_ : Pg) (k : Nat) : Pg := ⟨k % 3 == 0, mtext (k + 1), ((k + 2 : Nat) : Int)⟩
def gPn (_ : Pn) (k : Nat) : Pn := ⟨mtext k, ((k + 1 : Nat) : Int), ((k + 2 : Nat) : Int)⟩
def c3 {α : Type} (_ : α) : Nat := 3
theorem sum_c3 {α : Type} : ∀ (l : List α), (l.map c3).sum = 3 * l.length
  | [] => rfl
  | r :: l => by simp [sum_c3 l, c3]; omega
theorem sum_c3_take {α : Type} (l : List α) (j : Nat) (h : j ≤ l.length) : ((l.take j).map c3).sum = 3 * j := by rw [sum_c3, List.length_take]; omega


set_option maxHeartbeats 1000000 in
theorem eqPage_any (r : Pg) (w : World) :
    Calls Tryd.prog 49 #[.agg #[.bool r.used, .string r.data, .int .i64 r.next], .agg #[.bool r.used, .string r.data, .int .i64 r.next]] w fun e w' => e = .returned (.bool true) ∧ Below w.heap.size w w' := by
  obtain ⟨used, data, next⟩ := r
  show Calls Tryd.prog 49 #[.agg #[.bool used, .string data, .int .i64 next], .agg #[.bool used, .string data, .int .i64 next]] w _
  have h0 : (used != used) = false := by simp
  have h2 : (next != next) = false := by simp
  go_enter Tryd.func49, Tryd.ntmps49
  go_wp2
  all_goals
    go_ret
    exact ⟨rfl, ((Below.refl _ _).alloc (Nat.le_refl _) _).alloc (by simp) _⟩

set_option maxHeartbeats 2000000 in
theorem eqPageS_any (l : List Pg) (v v' : Value) (w : World) (lo hi lo' hi' : Nat) (hv : RcsAt fPg w lo hi v l) (hv' : RcsAt fPg w lo' hi' v' l) (hhi : hi ≤ w.heap.size) (hhi' : hi' ≤ w.heap.size) :
    Calls Tryd.prog 24 #[v, v'] w fun e w' => e = .returned (.bool true) ∧ Below w.heap.size w w' := by
  obtain ⟨a, cap, rfl, hl, hc⟩ := hv
  obtain ⟨a', cap', rfl, _, hc'⟩ := hv'
  unfold maxLen at hl
  go_enter Tryd.func24, Tryd.ntmps24
  go_wp2
  go_loopw [5] (fun i wr => ∃ (k : Nat), k ≤ l.length ∧ i = .int .i64 k ∧ Hid (Below w.heap.size w wr)) (fun i _ => l.length - (intOf i).toNat)
  case atStart => exact ⟨0, Nat.zero_le _, rfl, Below.refl _ _⟩
  case round =>
    obtain ⟨k, hk, rfl, HB⟩ := hrel
    by_cases hlt : k < l.length
    · obtain ⟨b, o, rfl, hb1, hb2, hcell⟩ := hc (by omega)
      obtain ⟨b', o', rfl, hb1', hb2', hcell'⟩ := hc' (by omega)
      obtain ⟨c0, c1, c2⟩ := hcell k hlt
      obtain ⟨d0, d1, d2⟩ := hcell' k hlt
      rw [← HB.out.cell (p := ⟨b, _, none⟩) (by show b < w.heap.size; omega)] at c0 c1 c2
      rw [← HB.out.cell (p := ⟨b', _, none⟩) (by show b' < w.heap.size; omega)] at d0 d1 d2
      simp only [fPg] at c0 c1 c2 d0 d1 d2
      have hd : (k : Int) < (l.length : Int) := by omega
      clear hc hc' hcell hcell'
      have HC : Hid (∀ w1, Below w.heap.size w w1 → Calls Tryd.prog 49 #[.agg #[.bool l[k].used, .string l[k].data, .int .i64 l[k].next], .agg #[.bool l[k].used, .string l[k].data, .int .i64 l[k].next]] w1 fun e w' => e = .returned (.bool true) ∧ Below w.heap.size w w') := fun w1 h1 =>
        (eqPage_any l[k] w1).mono fun e w' ⟨h, h2⟩ => ⟨h, h1.trans (h2.mono h1.size)⟩
      go_wp2
      go_region_with (go_at_call 49; refine (HC.out _ (by first | exact HB.out.drew | exact HB.out)).mono ?_; rintro e w1 ⟨rfl, hB1⟩; have HB1 : Hid (Below w.heap.size w w1) := hB1; clear hB1)
      all_goals
        go_wp2
        go_roundw
        case rel => exact ⟨k + 1, by omega, by go_num, HB1⟩
        case measure => simp [intOf]; omega
    · go_wp2
      go_ret
      exact ⟨rfl, HB.out⟩


set_option maxHeartbeats 2000000 in
theorem markPageS_own (l : List Pg) (v : Value) (b k : Nat) (w : World) (lo hi : Nat) (ho : OwnRcs fPg w lo hi b v l) (hhi : 0 < l.length → b < w.heap.size) (hk0 : 0 < k) (hk : k + 3 * l.length ≤ 1073741824) :
    Calls Tryd.prog 30 #[v, .int .i64 k] w fun e w' => e = .returned (.int .i64 ((k + 3 * l.length : Nat) : Int)) ∧ OwnRcs fPg w' lo hi b v (markK gPg c3 l k) ∧ InR lo hi w w' := by
  obtain ⟨a, cap, rfl, ha⟩ : ∃ a cap, v = .slice a l.length cap ∧ (0 < l.length → a = some ⟨b, 0, none⟩) := ho.1
  have hl : l.length ≤ 9223372036854775807 := ho.2.1
  have HBk := hide ho.2.2.1
  have HO := hide ho
  clear ho
  go_enter Tryd.func30, Tryd.ntmps30
  go_wp2_with fail
  go_loopw [1, 5] (fun x i wr => ∃ (j kj : Nat), j ≤ l.length ∧ x = .int .i64 (kj : Int) ∧ i = .int .i64 j ∧ Hid (kj = k + ((l.take j).map c3).sum) ∧ Hid (OwnRcs fPg wr lo hi b (.slice a l.length cap) (mixK gPg c3 l k j) ∧ InR lo hi w wr)) (fun _ i _ => l.length - (intOf i).toNat)
  case atStart => exact ⟨0, k, Nat.zero_le _, rfl, rfl, (by simp : k = k + ((l.take 0).map c3).sum), by rw [mixK_zero]; exact HO.out, InR.refl _ _ _⟩
  case round =>
    obtain ⟨j, kj, hj, rfl, rfl, HKj, HR⟩ := hrel
    by_cases hlt : j < l.length
    · have ha' := ha (by omega)
      subst ha'
      have hb := HBk.out (by omega)
      have hltI : (j : Int) < (l.length : Int) := by omega
      have hbs : b < wr.heap.size := by have := HR.out.2.size; have := hhi (by omega); omega
      have hj' : j < (mixK gPg c3 l k j).length := by rw [mixK_length]; exact hlt
      obtain ⟨⟨c0, c1, c2⟩, f0⟩ := HR.out.1.2.2.2 j hj'
      rw [mixK_at gPg c3 l k j hlt] at c0 c1 c2
      simp only [fPg] at c0 c1 c2
      have hkj := HKj.out
      rw [sum_c3_take l j hj] at hkj
      have hkb : kj + 3 ≤ 1073741824 := by omega
      have hk1 : 0 < kj := by omega
      have HN : Hid (kj + 3 = k + ((l.take (j + 1)).map c3).sum) := by
        show _ = _
        rw [sum_c3_take l (j + 1) (by omega)]
        omega
      have C0 := hide c0
      have C1 := hide c1
      have C2 := hide c2
      have F0 := hide f0
      have f00 := f0 (j * 3)
      clear c1 c2 hkj hj'
      have hm3 := mod3 kj
      have hwf := wf_small (x := kj) (by omega)
      go_wp2_with fail
      have hN : ((kj : Int) + 1) = ((kj + 1 : Nat) : Int) := by omega
      try rw [hN]
      refine (markText_any (kj + 1) _ (by omega) (by omega)).mono ?_
      rintro e w1 ⟨rfl, hB1⟩
      have HB1 := hide hB1
      have hzz : (wr.setCell ⟨b, j * 3, none⟩ (.bool (kj % 3 == 0))).heap.size = wr.heap.size := by simp [World.setCell]
      have k1 : ∀ x, x ≠ j * 3 → w1.cell? ⟨b, x, none⟩ = wr.cell? ⟨b, x, none⟩ := fun x hx => by
        rw [hB1.cell (p := ⟨b, x, none⟩) (by show b < _; first | (simp [World.setCell]; exact hbs) | exact hbs)]
        exact World.cell?_setCell_other _ _ _ _ (by intro h; injection h with _ h2 _; omega)
      have kf : ∀ x, w1.frozen? ⟨b, x, none⟩ = false := fun x => by
        rw [hB1.frozen (p := ⟨b, x, none⟩) (by show b < _; first | (simp [World.setCell]; exact hbs) | exact hbs)]
        exact (World.frozen?_setCell _ _ _ _).trans (F0.out x)
      have e1 := (k1 (j * 3 + 1) (by omega)).trans C1.out
      have e2 := (k1 (j * 3 + 2) (by omega)).trans C2.out
      have g1 := kf (j * 3 + 1)
      have g2 := kf (j * 3 + 2)
      have HW : Hid (OwnRcs fPg ((w1.setCell ⟨b, j * 3 + 1, none⟩ (.string (mtext (kj + 1)))).setCell ⟨b, j * 3 + 2, none⟩ (.int .i64 ((kj + 2 : Nat) : Int))) lo hi b (.slice (some ⟨b, 0, none⟩) l.length cap) (mixK gPg c3 l k (j + 1)) ∧ InR lo hi w ((w1.setCell ⟨b, j * 3 + 1, none⟩ (.string (mtext (kj + 1)))).setCell ⟨b, j * 3 + 2, none⟩ (.int .i64 ((kj + 2 : Nat) : Int)))) := by
        obtain ⟨q0, q1, q2, q3, q4⟩ := set3_cells (u0 := .bool (kj % 3 == 0)) (u1 := .string (mtext (kj + 1))) (u2 := .int .i64 ((kj + 2 : Nat) : Int)) hbs C0.out C1.out C2.out hB1 (Below.refl _ _)
        refine ⟨?_, (((HR.out.2.set hb _).below hB1).set hb _).set hb _⟩
        rw [mixK_succ gPg c3 l k j hlt, ← HKj.out]
        exact HR.out.1.step (by rw [mixK_length]; exact hlt) (gPg l[j] kj) q0 q1 q2 q3 q4
      clear hB1 k1 kf c0 f0 hN hzz HB1
      go_wp2_with fail
      go_roundw
      case rel => exact ⟨j + 1, kj + 3, by omega, by go_num, by go_num, HN, HW⟩
      case measure => simp [intOf]; omega
    · have e1 : j = l.length := by omega
      subst e1
      have hkj := HKj.out
      rw [List.take_length, sum_c3] at hkj
      subst hkj
      have HE := hide HR.out.1
      go_wp2_with fail
      go_ret
      exact ⟨rfl, by have := HE.out; rwa [mixK_all] at this, HR.out.2⟩


set_option maxHeartbeats 1000000 in
theorem eqPageName_any (r : Pn) (w : World) :
    Calls Tryd.prog 50 #[.agg #[.string r.name, .int .i64 r.first, .int .i64 r.size], .agg #[.string r.name, .int .i64 r.first, .int .i64 r.size]] w fun e w' => e = .returned (.bool true) ∧ Below w.heap.size w w' := by
  obtain ⟨name, first, size⟩ := r
  show Calls Tryd.prog 50 #[.agg #[.string name, .int .i64 first, .int .i64 size], .agg #[.string name, .int .i64 first, .int .i64 size]] w _
  have h1 : (first != first) = false := by simp
  have h2 : (size != size) = false := by simp
  go_enter Tryd.func50, Tryd.ntmps50
  go_wp2
  all_goals
    go_ret
    exact ⟨rfl, ((Below.refl _ _).alloc (Nat.le_refl _) _).alloc (by simp) _⟩

set_option maxHeartbeats 2000000 in
theorem eqPageNameS_any (l : List Pn) (v v' : Value) (w : World) (lo hi lo' hi' : Nat) (hv : RcsAt fPn w lo hi v l) (hv' : RcsAt fPn w lo' hi' v' l) (hhi : hi ≤ w.heap.size) (hhi' : hi' ≤ w.heap.size) :
    Calls Tryd.prog 25 #[v, v'] w fun e w' => e = .returned (.bool true) ∧ Below w.heap.size w w' := by
  obtain ⟨a, cap, rfl, hl, hc⟩ := hv
  obtain ⟨a', cap', rfl, _, hc'⟩ := hv'
  unfold maxLen at hl
  go_enter Tryd.func25, Tryd.ntmps25
  go_wp2
  go_loopw [5] (fun i wr => ∃ (k : Nat), k ≤ l.length ∧ i = .int .i64 k ∧ Hid (Below w.heap.size w wr)) (fun i _ => l.length - (intOf i).toNat)
  case atStart => exact ⟨0, Nat.zero_le _, rfl, Below.refl _ _⟩
  case round =>
    obtain ⟨k, hk, rfl, HB⟩ := hrel
    by_cases hlt : k < l.length
    · obtain ⟨b, o, rfl, hb1, hb2, hcell⟩ := hc (by omega)
      obtain ⟨b', o', rfl, hb1', hb2', hcell'⟩ := hc' (by omega)
      obtain ⟨c0, c1, c2⟩ := hcell k hlt
      obtain ⟨d0, d1, d2⟩ := hcell' k hlt
      rw [← HB.out.cell (p := ⟨b, _, none⟩) (by show b < w.heap.size; omega)] at c0 c1 c2
      rw [← HB.out.cell (p := ⟨b', _, none⟩) (by show b' < w.heap.size; omega)] at d0 d1 d2
      simp only [fPn] at c0 c1 c2 d0 d1 d2
      have hd : (k : Int) < (l.length : Int) := by omega
      clear hc hc' hcell hcell'
      have HC : Hid (∀ w1, Below w.heap.size w w1 → Calls Tryd.prog 50 #[.agg #[.string l[k].name, .int .i64 l[k].first, .int .i64 l[k].size], .agg #[.string l[k].name, .int .i64 l[k].first, .int .i64 l[k].size]] w1 fun e w' => e = .returned (.bool true) ∧ Below w.heap.size w w') := fun w1 h1 =>
        (eqPageName_any l[k] w1).mono fun e w' ⟨h, h2⟩ => ⟨h, h1.trans (h2.mono h1.size)⟩
      go_wp2
      go_region_with (go_at_call 50; refine (HC.out _ (by first | exact HB.out.drew | exact HB.out)).mono ?_; rintro e w1 ⟨rfl, hB1⟩; have HB1 : Hid (Below w.heap.size w w1) := hB1; clear hB1)
      all_goals
        go_wp2
        go_roundw
        case rel => exact ⟨k + 1, by omega, by go_num, HB1⟩
        case measure => simp [intOf]; omega
    · go_wp2
      go_ret
      exact ⟨rfl, HB.out⟩


set_option maxHeartbeats 2000000 in
theorem markPageNameS_own (l : List Pn) (v : Value) (b k : Nat) (w : World) (lo hi : Nat) (ho : OwnRcs fPn w lo hi b v l) (hhi : 0 < l.length → b < w.heap.size) (hk0 : 0 < k) (hk : k + 3 * l.length ≤ 1073741824) :
    Calls Tryd.prog 31 #[v, .int .i64 k] w fun e w' => e = .returned (.int .i64 ((k + 3 * l.length : Nat) : Int)) ∧ OwnRcs fPn w' lo hi b v (markK gPn c3 l k) ∧ InR lo hi w w' := by
  obtain ⟨a, cap, rfl, ha⟩ : ∃ a cap, v = .slice a l.length cap ∧ (0 < l.length → a = some ⟨b, 0, none⟩) := ho.1
  have hl : l.length ≤ 9223372036854775807 := ho.2.1
  have HBk := hide ho.2.2.1
  have HO := hide ho
  clear ho
  go_enter Tryd.func31, Tryd.ntmps31
  go_wp2_with fail
  go_loopw [1, 5] (fun x i wr => ∃ (j kj : Nat), j ≤ l.length ∧ x = .int .i64 (kj : Int) ∧ i = .int .i64 j ∧ Hid (kj = k + ((l.take j).map c3).sum) ∧ Hid (OwnRcs fPn wr lo hi b (.slice a l.length cap) (mixK gPn c3 l k j) ∧ InR lo hi w wr)) (fun _ i _ => l.length - (intOf i).toNat)
  case atStart => exact ⟨0, k, Nat.zero_le _, rfl, rfl, (by simp : k = k + ((l.take 0).map c3).sum), by rw [mixK_zero]; exact HO.out, InR.refl _ _ _⟩
  case round =>
    obtain ⟨j, kj, hj, rfl, rfl, HKj, HR⟩ := hrel
    by_cases hlt : j < l.length
    · have ha' := ha (by omega)
      subst ha'
      have hb := HBk.out (by omega)
      have hltI : (j : Int) < (l.length : Int) := by omega
      have hbs : b < wr.heap.size := by have := HR.out.2.size; have := hhi (by omega); omega
      have hj' : j < (mixK gPn c3 l k j).length := by rw [mixK_length]; exact hlt
      obtain ⟨⟨c0, c1, c2⟩, f0⟩ := HR.out.1.2.2.2 j hj'
      rw [mixK_at gPn c3 l k j hlt] at c0 c1 c2
      simp only [fPn] at c0 c1 c2
      have hkj := HKj.out
      rw [sum_c3_take l j hj] at hkj
      have hkb : kj + 3 ≤ 1073741824 := by omega
      have hk1 : 0 < kj := by omega
      have HN : Hid (kj + 3 = k + ((l.take (j + 1)).map c3).sum) := by
        show _ = _
        rw [sum_c3_take l (j + 1) (by omega)]
        omega
      have C0 := hide c0
      have C1 := hide c1
      have C2 := hide c2
      have F0 := hide f0
      have f00 := f0 (j * 3)
      clear c1 c2 hkj hj'
      go_wp2_with fail
      refine (markText_any kj _ (by omega) (by omega)).mono ?_
      rintro e w1 ⟨rfl, hB1⟩
      have HB1 := hide hB1
      have k1 : ∀ x, w1.cell? ⟨b, x, none⟩ = wr.cell? ⟨b, x, none⟩ := fun x => hB1.cell (p := ⟨b, x, none⟩) hbs
      have kf : ∀ x, w1.frozen? ⟨b, x, none⟩ = false := fun x => (hB1.frozen (p := ⟨b, x, none⟩) hbs).trans (F0.out x)
      have e0 := (k1 (j * 3)).trans C0.out
      have e1 := (k1 (j * 3 + 1)).trans C1.out
      have e2 := (k1 (j * 3 + 2)).trans C2.out
      have g0 := kf (j * 3)
      have g1 := kf (j * 3 + 1)
      have g2 := kf (j * 3 + 2)
      have HW : Hid (OwnRcs fPn (((w1.setCell ⟨b, j * 3, none⟩ (.string (mtext kj))).setCell ⟨b, j * 3 + 1, none⟩ (.int .i64 ((kj + 1 : Nat) : Int))).setCell ⟨b, j * 3 + 2, none⟩ (.int .i64 ((kj + 2 : Nat) : Int))) lo hi b (.slice (some ⟨b, 0, none⟩) l.length cap) (mixK gPn c3 l k (j + 1)) ∧ InR lo hi w (((w1.setCell ⟨b, j * 3, none⟩ (.string (mtext kj))).setCell ⟨b, j * 3 + 1, none⟩ (.int .i64 ((kj + 1 : Nat) : Int))).setCell ⟨b, j * 3 + 2, none⟩ (.int .i64 ((kj + 2 : Nat) : Int)))) := by
        have hb1 : b < w1.heap.size := Nat.lt_of_lt_of_le hbs hB1.size
        obtain ⟨q0, q1, q2, q3, q4⟩ := set3_cells (u0 := .string (mtext kj)) (u1 := .int .i64 ((kj + 1 : Nat) : Int)) (u2 := .int .i64 ((kj + 2 : Nat) : Int)) hb1 e0 e1 e2 (Below.refl _ _) (Below.refl _ _)
        refine ⟨?_, ((((HR.out.2.below hB1).set hb _).set hb _).set hb _)⟩
        rw [mixK_succ gPn c3 l k j hlt, ← HKj.out]
        exact HR.out.1.step (by rw [mixK_length]; exact hlt) (gPn l[j] kj) q0 q1 q2 (fun y y1 y2 y3 => (q3 y y1 y2 y3).trans (k1 y)) (fun y => (q4 y).trans (hB1.frozen (p := ⟨b, y, none⟩) hbs))
      clear hB1 k1 kf c0 f0 HB1
      go_wp2_with fail
      go_roundw
      case rel => exact ⟨j + 1, kj + 3, by omega, by go_num, by go_num, HN, HW⟩
      case measure => simp [intOf]; omega
    · have e1 : j = l.length := by omega
      subst e1
      have hkj := HKj.out
      rw [List.take_length, sum_c3] at hkj
      subst hkj
      have HE := hide HR.out.1
      go_wp2_with fail
      go_ret
      exact ⟨rfl, by have := HE.out; rwa [mixK_all] at this, HR.out.2⟩


end Go.Proofs.YtnahpghbodmdbaaDoor
