/- Pages and kept names: their values; the laws' comparison, marks, what they hold, count and copy of lists of them. Written by wip/pgs.py. -/
import Derived.Test.YtblcmnlbapbebaaDoorRc3
import Derived.Deep.RegionWith
import Derived.Test.YtblcmnlbapbebaaDoorSzN
import Derived.Test.YtblcmnlbapbebaaDoorTo
namespace Go.Proofs.YtblcmnlbapbebaaDoor
open Go.RowKit

structure Pg where
  used : Bool
  data : ByteArray
  next : Int
structure Pn where
  name : ByteArray
  first : Int
  size : Int
def fPg (p : Pg) : V3 := (.bool p.used, .string p.data, .int .i64 p.next)
def fPn (p : Pn) : V3 := (.string p.name, .int .i64 p.first, .int .i64 p.size)
abbrev aPg (p : Pg) : Value := .agg #[.bool p.used, .string p.data, .int .i64 p.next]
abbrev aPn (p : Pn) : Value := .agg #[.string p.name, .int .i64 p.first, .int .i64 p.size]
def gPg (_ : Pg) (k : Nat) : Pg := ⟨k % 3 == 0, mtext (k + 1), ((k + 2 : Nat) : Int)⟩
def gPn (_ : Pn) (k : Nat) : Pn := ⟨mtext k, ((k + 1 : Nat) : Int), ((k + 2 : Nat) : Int)⟩
def c3 {α : Type} (_ : α) : Nat := 3
theorem sum_c3 {α : Type} : ∀ (l : List α), (l.map c3).sum = 3 * l.length
  | [] => rfl
  | r :: l => by simp [sum_c3 l, c3]; omega
theorem sum_c3_take {α : Type} (l : List α) (j : Nat) (h : j ≤ l.length) : ((l.take j).map c3).sum = 3 * j := by rw [sum_c3, List.length_take]; omega


set_option maxHeartbeats 1000000 in
theorem eqPage_any (r : Pg) (w : World) :
    Calls Tryd.prog 38 #[.agg #[.bool r.used, .string r.data, .int .i64 r.next], .agg #[.bool r.used, .string r.data, .int .i64 r.next]] w fun e w' => e = .returned (.bool true) ∧ Below w.heap.size w w' := by
  obtain ⟨used, data, next⟩ := r
  show Calls Tryd.prog 38 #[.agg #[.bool used, .string data, .int .i64 next], .agg #[.bool used, .string data, .int .i64 next]] w _
  have h0 : (used != used) = false := by simp
  have h2 : (next != next) = false := by simp
  go_enter Tryd.func38, Tryd.ntmps38
  go_wp2
  all_goals
    go_ret
    exact ⟨rfl, ((Below.refl _ _).alloc (Nat.le_refl _) _).alloc (by simp) _⟩

set_option maxHeartbeats 2000000 in
theorem eqPageS_any (l : List Pg) (v v' : Value) (w : World) (lo hi lo' hi' : Nat) (hv : RcsAt fPg w lo hi v l) (hv' : RcsAt fPg w lo' hi' v' l) (hhi : hi ≤ w.heap.size) (hhi' : hi' ≤ w.heap.size) :
    Calls Tryd.prog 19 #[v, v'] w fun e w' => e = .returned (.bool true) ∧ Below w.heap.size w w' := by
  obtain ⟨a, cap, rfl, hl, hc⟩ := hv
  obtain ⟨a', cap', rfl, _, hc'⟩ := hv'
  unfold maxLen at hl
  go_enter Tryd.func19, Tryd.ntmps19
  go_wp2
  go_loopw [5] (fun i wr => ∃ (k : Nat), k ≤ l.length ∧ i = .int .i64 k ∧ Hid (Below w.heap.size w wr)) (fun i _ => l.length - (intOf i).toNat)
  case atStart => exact ⟨0, Nat.zero_le _, rfl, Below.refl _ _⟩
  case round =>
    obtain ⟨k, hk, rfl, HB⟩ := hrel
    by_cases hlt : k < l.length
    · obtain ⟨b, o, rfl, hb1, hb2, hcell⟩ := hc (by omega)
      obtain ⟨b', o', rfl, hb1', hb2', hcell'⟩ := hc' (by omega)
      obtain ⟨c0, c1, c2⟩ := hcell k hlt
      obtain ⟨d0, d1, d2⟩ := hcell' k hlt
      rw [← HB.out.cell (p := ⟨b, _, none⟩) (by show b < w.heap.size; omega)] at c0 c1 c2
      rw [← HB.out.cell (p := ⟨b', _, none⟩) (by show b' < w.heap.size; omega)] at d0 d1 d2
      simp only [fPg] at c0 c1 c2 d0 d1 d2
      have hd : (k : Int) < (l.length : Int) := by omega
      clear hc hc' hcell hcell'
      have HC : Hid (∀ w1, Below w.heap.size w w1 → Calls Tryd.prog 38 #[.agg #[.bool l[k].used, .string l[k].data, .int .i64 l[k].next], .agg #[.bool l[k].used, .string l[k].data, .int .i64 l[k].next]] w1 fun e w' => e = .returned (.bool true) ∧ Below w.heap.size w w') := fun w1 h1 =>
        (eqPage_any l[k] w1).mono fun e w' ⟨h, h2⟩ => ⟨h, h1.trans (h2.mono h1.size)⟩
      go_wp2
      go_region_with (go_at_call 38; refine (HC.out _ (by first | exact HB.out.drew | exact HB.out)).mono ?_; rintro e w1 ⟨rfl, hB1⟩; have HB1 : Hid (Below w.heap.size w w1) := hB1; clear hB1)
      all_goals
        go_wp2
        go_roundw
        case rel => exact ⟨k + 1, by omega, by go_num, HB1⟩
        case measure => simp [intOf]; omega
    · go_wp2
      go_ret
      exact ⟨rfl, HB.out⟩




set_option maxHeartbeats 1000000 in
theorem eqPageName_any (r : Pn) (w : World) :
    Calls Tryd.prog 39 #[.agg #[.string r.name, .int .i64 r.first, .int .i64 r.size], .agg #[.string r.name, .int .i64 r.first, .int .i64 r.size]] w fun e w' => e = .returned (.bool true) ∧ Below w.heap.size w w' := by
  obtain ⟨name, first, size⟩ := r
  show Calls Tryd.prog 39 #[.agg #[.string name, .int .i64 first, .int .i64 size], .agg #[.string name, .int .i64 first, .int .i64 size]] w _
  have h1 : (first != first) = false := by simp
  have h2 : (size != size) = false := by simp
  go_enter Tryd.func39, Tryd.ntmps39
  go_wp2
  all_goals
    go_ret
    exact ⟨rfl, ((Below.refl _ _).alloc (Nat.le_refl _) _).alloc (by simp) _⟩

set_option maxHeartbeats 2000000 in
theorem eqPageNameS_any (l : List Pn) (v v' : Value) (w : World) (lo hi lo' hi' : Nat) (hv : RcsAt fPn w lo hi v l) (hv' : RcsAt fPn w lo' hi' v' l) (hhi : hi ≤ w.heap.size) (hhi' : hi' ≤ w.heap.size) :
    Calls Tryd.prog 20 #[v, v'] w fun e w' => e = .returned (.bool true) ∧ Below w.heap.size w w' := by
  obtain ⟨a, cap, rfl, hl, hc⟩ := hv
  obtain ⟨a', cap', rfl, _, hc'⟩ := hv'
  unfold maxLen at hl
  go_enter Tryd.func20, Tryd.ntmps20
  go_wp2
  go_loopw [5] (fun i wr => ∃ (k : Nat), k ≤ l.length ∧ i = .int .i64 k ∧ Hid (Below w.heap.size w wr)) (fun i _ => l.length - (intOf i).toNat)
  case atStart => exact ⟨0, Nat.zero_le _, rfl, Below.refl _ _⟩
  case round =>
    obtain ⟨k, hk, rfl, HB⟩ := hrel
    by_cases hlt : k < l.length
    · obtain ⟨b, o, rfl, hb1, hb2, hcell⟩ := hc (by omega)
      obtain ⟨b', o', rfl, hb1', hb2', hcell'⟩ := hc' (by omega)
      obtain ⟨c0, c1, c2⟩ := hcell k hlt
      obtain ⟨d0, d1, d2⟩ := hcell' k hlt
      rw [← HB.out.cell (p := ⟨b, _, none⟩) (by show b < w.heap.size; omega)] at c0 c1 c2
      rw [← HB.out.cell (p := ⟨b', _, none⟩) (by show b' < w.heap.size; omega)] at d0 d1 d2
      simp only [fPn] at c0 c1 c2 d0 d1 d2
      have hd : (k : Int) < (l.length : Int) := by omega
      clear hc hc' hcell hcell'
      have HC : Hid (∀ w1, Below w.heap.size w w1 → Calls Tryd.prog 39 #[.agg #[.string l[k].name, .int .i64 l[k].first, .int .i64 l[k].size], .agg #[.string l[k].name, .int .i64 l[k].first, .int .i64 l[k].size]] w1 fun e w' => e = .returned (.bool true) ∧ Below w.heap.size w w') := fun w1 h1 =>
        (eqPageName_any l[k] w1).mono fun e w' ⟨h, h2⟩ => ⟨h, h1.trans (h2.mono h1.size)⟩
      go_wp2
      go_region_with (go_at_call 39; refine (HC.out _ (by first | exact HB.out.drew | exact HB.out)).mono ?_; rintro e w1 ⟨rfl, hB1⟩; have HB1 : Hid (Below w.heap.size w w1) := hB1; clear hB1)
      all_goals
        go_wp2
        go_roundw
        case rel => exact ⟨k + 1, by omega, by go_num, HB1⟩
        case measure => simp [intOf]; omega
    · go_wp2
      go_ret
      exact ⟨rfl, HB.out⟩




end Go.Proofs.YtblcmnlbapbebaaDoor
