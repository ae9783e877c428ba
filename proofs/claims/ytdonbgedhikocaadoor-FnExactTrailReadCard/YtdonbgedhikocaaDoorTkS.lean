/- Trails: both sides say whether a mark is one; the specification's TrailOk. -/
import Derived.Test.YtdonbgedhikocaaDoorPth
import Derived.Test.YtdonbgedhikocaaDoorMk0
import Derived.Deep.RegionWith
namespace Go.Proofs.YtdonbgedhikocaaDoor
open Go.RowKit

def markQ (m : Mk) : Bool := allB m.path && decide ((m.path.length : Int) ≤ 4) && (m.sub || decide (0 < m.path.length))
def mkAt (l : List Mk) (i : Nat) : Mk := l.getD i ⟨[], false⟩
theorem mkAt_at (l : List Mk) (i : Nat) (h : i < l.length) : mkAt l i = l[i] := by simp [mkAt, h]
/-- No mark ahead of the i-th has all below and the i-th within. -/
def freeB (l : List Mk) (i k : Nat) : Bool := (List.range k).all fun j => !((mkAt l j).sub && preB (mkAt l j).path (mkAt l i).path)
def okAt (l : List Mk) (i : Nat) : Bool := markQ (mkAt l i) && (i == 0 || pathLt (mkAt l (i - 1)).path (mkAt l i).path) && freeB l i i
def upTo (l : List Mk) (i : Nat) : Bool := (List.range i).all (okAt l)
def trailB (l : List Mk) : Bool := upTo l l.length && decide ((l.length : Int) ≤ 6)
theorem freeB_succ (l : List Mk) (i k : Nat) : freeB l i (k + 1) = (freeB l i k && !((mkAt l k).sub && preB (mkAt l k).path (mkAt l i).path)) := by simp [freeB, List.range_succ]
theorem freeB_no (l : List Mk) (i k : Nat) (h : k < i) (e : ((mkAt l k).sub && preB (mkAt l k).path (mkAt l i).path) = true) : freeB l i i = false := by
  rw [freeB, List.all_eq_false]
  exact ⟨k, List.mem_range.2 h, by rw [e]; simp⟩
theorem upTo_succ (l : List Mk) (i : Nat) : upTo l (i + 1) = (upTo l i && okAt l i) := by simp [upTo, List.range_succ]
theorem trailB_no (l : List Mk) (i : Nat) (h : i < l.length) (e : okAt l i = false) : trailB l = false := by
  have : upTo l l.length = false := by
    rw [upTo, List.all_eq_false]
    exact ⟨i, List.mem_range.2 h, by rw [e]; simp⟩
  rw [trailB, this]; rfl

set_option maxHeartbeats 1000000 in
theorem l11MarkOk_any (m : Mk) (pa : Option Addr) (pc : Nat) (w : World) (lo hi : Nat) (hm : StrsAt w lo hi (.slice pa m.path.length pc) m.path) (hhi : hi ≤ w.heap.size) :
    Calls Tryd.prog 19 #[.agg #[.slice pa m.path.length pc, .bool m.sub]] w fun e w' => e = .returned (.bool (markQ m)) ∧ Below w.heap.size w w' := by
  obtain ⟨path, sub⟩ := m
  have HA : Hid (∀ o, Below w.heap.size w (w.alloc o)) := fun o => (Below.refl _ _).alloc (Nat.le_refl _) o
  have HC : Hid (∀ o, Calls Tryd.prog 28 #[.slice pa path.length pc] (w.alloc o) fun e w' => e = .returned (.bool (pathQ path)) ∧ w' = w.alloc o) := fun o => l2PathOk_any path pa pc _ lo hi (StrsAt.keep hm (HA.out o) hhi)
  obtain ⟨_, _, he, hl, _⟩ := hm
  have hl : path.length ≤ maxLen := hl
  unfold maxLen at hl
  clear he
  show Calls Tryd.prog 19 #[.agg #[.slice pa path.length pc, .bool sub]] w _
  by_cases h0 : path.length = 0
  · have HV : Hid (markQ ⟨path, sub⟩ = sub) := by
      show _ = _
      have e : path = [] := List.eq_nil_of_length_eq_zero h0
      subst e
      cases sub <;> rfl
    have h0' : ((path.length : Int) == 0) = true := by simp [h0]
    clear h0
    go_enter Tryd.func19, Tryd.ntmps19
    go_wp2_with fail
    go_ret
    exact ⟨by rw [HV.out]; rfl, HA.out _⟩
  · have HV : Hid (markQ ⟨path, sub⟩ = pathQ path) := by
      show (allB path && decide ((path.length : Int) ≤ 4) && (sub || decide (0 < path.length))) = _
      rw [pathQ, decide_eq_true (by omega : 0 < path.length), decide_eq_true (by omega : 1 ≤ (path.length : Int))]
      simp
    have h0' : ((path.length : Int) == 0) = false := by rw [beq_eq_false_iff_ne]; omega
    clear h0
    rw [HV.out]
    generalize pathQ path = q at HC ⊢
    go_enter Tryd.func19, Tryd.ntmps19
    go_wp2_with (go_at_call 28; refine (HC.out _).mono ?_; rintro e w' ⟨rfl, rfl⟩)
    go_ret
    exact ⟨rfl, HA.out _⟩

set_option maxHeartbeats 1000000 in
theorem isMark_any (m : Mk) (pa : Option Addr) (pc : Nat) (w : World) (lo hi : Nat) (hm : StrsAt w lo hi (.slice pa m.path.length pc) m.path) (hhi : hi ≤ w.heap.size) :
    Calls Tryd.prog 34 #[.agg #[.slice pa m.path.length pc, .bool m.sub]] w fun e w' => e = .returned (.bool (markQ m)) ∧ Below w.heap.size w w' := by
  obtain ⟨path, sub⟩ := m
  have HA : Hid (∀ o, Below w.heap.size w (w.alloc o)) := fun o => (Below.refl _ _).alloc (Nat.le_refl _) o
  have HC : Hid (∀ o, Calls Tryd.prog 32 #[.slice pa path.length pc] (w.alloc o) fun e w' => e = .returned (.bool (allB path && decide ((path.length : Int) ≤ 4))) ∧ w' = w.alloc o) := fun o => isPath_any path pa pc _ lo hi (StrsAt.keep hm (HA.out o) hhi)
  obtain ⟨_, _, he, hl, _⟩ := hm
  have hl : path.length ≤ maxLen := hl
  unfold maxLen at hl
  clear he
  show Calls Tryd.prog 34 #[.agg #[.slice pa path.length pc, .bool sub]] w _
  have HV : Hid (markQ ⟨path, sub⟩ = ((allB path && decide ((path.length : Int) ≤ 4)) && (sub || decide (0 < path.length)))) := rfl
  generalize markQ ⟨path, sub⟩ = res at HV ⊢
  generalize (allB path && decide ((path.length : Int) ≤ 4)) = q at HC HV
  cases q <;> cases sub
  all_goals
    go_enter Tryd.func34, Tryd.ntmps34
    go_wp2_with (go_at_call 32; refine (HC.out _).mono ?_; rintro e w' ⟨rfl, rfl⟩)
    go_ret
    exact ⟨by rw [HV.out]; simp, HA.out _⟩

/-- What is read of a mark of a list. -/
theorem mks_cell {w : World} {lo hi : Nat} {a : Option Addr} {cap : Nat} {l : List Mk} (h : MksAt w lo hi (.slice a l.length cap) l) (hhi : hi ≤ w.heap.size) (i : Nat) (hi' : i < l.length) :
    ∃ b o pa pc, a = some ⟨b, o, none⟩ ∧ (∀ W, Below w.heap.size w W → W.cell? ⟨b, o + i * 2, none⟩ = some (.slice pa l[i].path.length pc) ∧ W.cell? ⟨b, o + i * 2 + 1, none⟩ = some (.bool l[i].sub) ∧ StrsAt W lo hi (.slice pa l[i].path.length pc) l[i].path) := by
  obtain ⟨a', cap', he, _, hc⟩ := h
  simp only [Value.slice.injEq, true_and] at he
  obtain ⟨rfl, rfl⟩ := he
  obtain ⟨b, o, rfl, h1, h2, hcell⟩ := hc (by omega)
  obtain ⟨pa, pc, c0, c1, hr⟩ := hcell i hi'
  refine ⟨b, o, pa, pc, rfl, fun W hW => ⟨?_, ?_, hr.keep hW hhi⟩⟩
  · rw [hW.cell (p := ⟨b, _, none⟩) (by show b < w.heap.size; omega)]; exact c0
  · rw [hW.cell (p := ⟨b, _, none⟩) (by show b < w.heap.size; omega)]; exact c1

end Go.Proofs.YtdonbgedhikocaaDoor
