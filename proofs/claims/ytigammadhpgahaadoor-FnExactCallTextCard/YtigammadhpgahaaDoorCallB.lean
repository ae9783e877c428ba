/- Calls: both sides say whether one is one. -/
import Derived.Test.YtigammadhpgahaaDoorPathB
namespace Go.Proofs.YtigammadhpgahaaDoor
open Go.RowKit

/-- A call: its kind, its path, where it goes, a number, bytes. -/
structure Cl where
  kind : Int
  path : List ByteArray
  to : List ByteArray
  num : Int
  data : ByteArray
def callQ (kind num : Int) (q r : Bool) : Bool :=
  if kind = 1 ∨ kind = 6 then q && (decide (0 ≤ num) && decide (num ≤ 7))
  else if kind = 2 ∨ kind = 3 then q && (decide (0 ≤ num) && decide (num ≤ 24))
  else if kind = 4 then q
  else if kind = 5 then q && r
  else false
def callB (c : Cl) : Bool := callQ c.kind c.num (pathQ c.path) (pathQ c.to)
abbrev aggC (c : Cl) (pa : Option Addr) (pc : Nat) (ta : Option Addr) (tc : Nat) : Value := .agg #[.int .i64 c.kind, .slice pa c.path.length pc, .slice ta c.to.length tc, .int .i64 c.num, .string c.data]
/-- A call in memory. -/
def ClOk (w : World) (lo hi : Nat) (c : Cl) (pa : Option Addr) (pc : Nat) (ta : Option Addr) (tc : Nat) : Prop :=
  StrsAt w lo hi (.slice pa c.path.length pc) c.path ∧ StrsAt w lo hi (.slice ta c.to.length tc) c.to ∧ c.data.size ≤ maxLen
theorem ClOk.keep {w w' : World} {lo hi B : Nat} {c : Cl} {pa : Option Addr} {pc : Nat} {ta : Option Addr} {tc : Nat} (h : ClOk w lo hi c pa pc ta tc) (hb : Below B w w') (hB : hi ≤ B) : ClOk w' lo hi c pa pc ta tc := ⟨h.1.keep hb hB, h.2.1.keep hb hB, h.2.2⟩

set_option maxHeartbeats 4000000 in
theorem l2CallOk_at (kind num : Int) (pl tl : Nat) (x : ByteArray) (q r : Bool) (pa : Option Addr) (pc : Nat) (ta : Option Addr) (tc : Nat) (w : World)
    (hq : ∀ o, Calls Tryd.prog 22 #[.slice pa pl pc] (w.alloc o) fun e w' => e = .returned (.bool q) ∧ w' = w.alloc o)
    (hr : ∀ o, Calls Tryd.prog 22 #[.slice ta tl tc] (w.alloc o) fun e w' => e = .returned (.bool r) ∧ w' = w.alloc o) :
    Calls Tryd.prog 10 #[.agg #[.int .i64 kind, .slice pa pl pc, .slice ta tl tc, .int .i64 num, .string x]] w fun e w' => e = .returned (.bool (callQ kind num q r)) ∧ Below w.heap.size w w' := by
  have HA : Hid (∀ o, Below w.heap.size w (w.alloc o)) := fun o => (Below.refl _ _).alloc (Nat.le_refl _) o
  have hcase : kind = 1 ∨ kind = 2 ∨ kind = 3 ∨ kind = 4 ∨ kind = 5 ∨ kind = 6 ∨ (kind ≠ 1 ∧ kind ≠ 2 ∧ kind ≠ 3 ∧ kind ≠ 4 ∧ kind ≠ 5 ∧ kind ≠ 6) := by omega
  rcases hcase with rfl | rfl | rfl | rfl | rfl | rfl | ⟨h1, h2, h3, h4, h5, h6⟩
  case inr.inr.inr.inr.inr.inr =>
    have HV : Hid (callQ kind num q r = false) := by
      show _ = _
      rw [callQ, if_neg (by omega), if_neg (by omega), if_neg h4, if_neg h5]
    have g1 : (kind == 1) = false := by simpa using h1
    have g2 : (kind == 2) = false := by simpa using h2
    have g3 : (kind == 3) = false := by simpa using h3
    have g4 : (kind == 4) = false := by simpa using h4
    have g5 : (kind == 5) = false := by simpa using h5
    have g6 : (kind == 6) = false := by simpa using h6
    clear h1 h2 h3 h4 h5 h6
    go_enter Tryd.func10, Tryd.ntmps10
    go_wp2_with fail
    go_ret
    exact ⟨by rw [HV.out]; rfl, HA.out _⟩
  all_goals
    cases q <;> cases r
  all_goals
    go_enter Tryd.func10, Tryd.ntmps10
    go_wp2_with (first
      | (go_at_call 22; with_reducible refine (hq _).mono ?_; rintro e w' ⟨rfl, rfl⟩)
      | (go_at_call 22; with_reducible refine (hr _).mono ?_; rintro e w' ⟨rfl, rfl⟩)
      | (go_at_call 23; refine (l1In_any _ _ _ _).mono ?_; rintro e w' ⟨rfl, rfl⟩))
  all_goals
    go_ret
    exact ⟨rfl, HA.out _⟩

theorem l2CallOk_any (c : Cl) (pa : Option Addr) (pc : Nat) (ta : Option Addr) (tc : Nat) (w : World) (lo hi : Nat) (hc : ClOk w lo hi c pa pc ta tc) (hhi : hi ≤ w.heap.size) :
    Calls Tryd.prog 10 #[aggC c pa pc ta tc] w fun e w' => e = .returned (.bool (callB c)) ∧ Below w.heap.size w w' := by
  have hk : ∀ o, ClOk (w.alloc o) lo hi c pa pc ta tc := fun o => hc.keep ((Below.refl w.heap.size w).alloc (Nat.le_refl _) o) hhi
  exact l2CallOk_at c.kind c.num c.path.length c.to.length c.data _ _ pa pc ta tc w (fun o => l2PathOk_any c.path pa pc _ lo hi (hk o).1) (fun o => l2PathOk_any c.to ta tc _ lo hi (hk o).2.1)

set_option maxHeartbeats 4000000 in
theorem isCall_at (kind num : Int) (pl tl : Nat) (x : ByteArray) (q r : Bool) (pa : Option Addr) (pc : Nat) (ta : Option Addr) (tc : Nat) (w : World)
    (hq : ∀ o, Calls Tryd.prog 24 #[.slice pa pl pc] (w.alloc o) fun e w' => e = .returned (.bool q) ∧ w' = w.alloc o)
    (hr : ∀ o, Calls Tryd.prog 24 #[.slice ta tl tc] (w.alloc o) fun e w' => e = .returned (.bool r) ∧ w' = w.alloc o) :
    Calls Tryd.prog 16 #[.agg #[.int .i64 kind, .slice pa pl pc, .slice ta tl tc, .int .i64 num, .string x]] w fun e w' => e = .returned (.bool (callQ kind num (q && !((pl : Int) == 0)) (r && decide (0 < (tl : Int))))) ∧ Below w.heap.size w w' := by
  have HA : Hid (∀ o, Below w.heap.size w (w.alloc o)) := fun o => (Below.refl _ _).alloc (Nat.le_refl _) o
  obtain hq0 | hq0 : q = false ∨ q = true := by cases q <;> simp
  · subst hq0
    have HV : Hid (callQ kind num (false && !((pl : Int) == 0)) (r && decide (0 < (tl : Int))) = false) := by
      show _ = _
      unfold callQ
      repeat' split
      all_goals simp
    go_enter Tryd.func16, Tryd.ntmps16
    go_wp2_with (first
      | (go_at_call 24; with_reducible refine (hq _).mono ?_; rintro e w' ⟨rfl, rfl⟩))
    go_ret
    exact ⟨by rw [HV.out]; rfl, HA.out _⟩
  subst hq0
  by_cases h0 : (pl : Int) = 0
  · have h0' : ((pl : Int) == 0) = true := by simpa using h0
    have HV : Hid (callQ kind num (true && !((pl : Int) == 0)) (r && decide (0 < (tl : Int))) = false) := by
      show _ = _
      rw [h0']
      unfold callQ
      repeat' split
      all_goals simp
    clear h0
    go_enter Tryd.func16, Tryd.ntmps16
    go_wp2_with (first
      | (go_at_call 24; with_reducible refine (hq _).mono ?_; rintro e w' ⟨rfl, rfl⟩))
    go_ret
    exact ⟨by rw [HV.out]; rfl, HA.out _⟩
  have h0' : ((pl : Int) == 0) = false := by simpa using h0
  clear h0
  have HX : Hid (callQ kind num (true && !((pl : Int) == 0)) (r && decide (0 < (tl : Int))) = callQ kind num true (r && decide (0 < (tl : Int)))) := by show _ = _; rw [h0']; rfl
  rw [HX.out]
  have hcase : kind = 1 ∨ kind = 2 ∨ kind = 3 ∨ kind = 4 ∨ kind = 5 ∨ kind = 6 ∨ (kind ≠ 1 ∧ kind ≠ 2 ∧ kind ≠ 3 ∧ kind ≠ 4 ∧ kind ≠ 5 ∧ kind ≠ 6) := by omega
  clear HX
  rcases hcase with rfl | rfl | rfl | rfl | rfl | rfl | ⟨h1, h2, h3, h4, h5, h6⟩
  case inr.inr.inr.inr.inr.inr =>
    have HV : Hid (callQ kind num true (r && decide (0 < (tl : Int))) = false) := by
      show _ = _
      rw [callQ, if_neg (by omega), if_neg (by omega), if_neg h4, if_neg h5]
    have g1 : (kind == 1) = false := by simpa using h1
    have g2 : (kind == 2) = false := by simpa using h2
    have g3 : (kind == 3) = false := by simpa using h3
    have g4 : (kind == 4) = false := by simpa using h4
    have g5 : (kind == 5) = false := by simpa using h5
    have g6 : (kind == 6) = false := by simpa using h6
    clear h1 h2 h3 h4 h5 h6
    go_enter Tryd.func16, Tryd.ntmps16
    go_wp2_with (first
      | (go_at_call 24; with_reducible refine (hq _).mono ?_; rintro e w' ⟨rfl, rfl⟩))
    go_ret
    exact ⟨by rw [HV.out]; rfl, HA.out _⟩
  all_goals
    obtain hn | hn : num < 0 ∨ 0 ≤ num := by omega
  all_goals
    cases r
  all_goals
    go_enter Tryd.func16, Tryd.ntmps16
    go_wp2_with (first
      | (go_at_call 24; with_reducible refine (hq _).mono ?_; rintro e w' ⟨rfl, rfl⟩)
      | (go_at_call 24; with_reducible refine (hr _).mono ?_; rintro e w' ⟨rfl, rfl⟩)
      | (go_at_call 25; refine (isMode_any _ _).mono ?_; rintro e w' ⟨rfl, rfl⟩))
  all_goals
    go_ret
    refine ⟨?_, HA.out _⟩
    clear hq hr HA
    first | rfl | (simp [callQ, hn]; done) | (simp [callQ]; omega)

theorem isCall_any (c : Cl) (pa : Option Addr) (pc : Nat) (ta : Option Addr) (tc : Nat) (w : World) (lo hi : Nat) (hc : ClOk w lo hi c pa pc ta tc) (hhi : hi ≤ w.heap.size) :
    Calls Tryd.prog 16 #[aggC c pa pc ta tc] w fun e w' => e = .returned (.bool (callB c)) ∧ Below w.heap.size w w' := by
  have hk : ∀ o, ClOk (w.alloc o) lo hi c pa pc ta tc := fun o => hc.keep ((Below.refl w.heap.size w).alloc (Nat.le_refl _) o) hhi
  have h := isCall_at c.kind c.num c.path.length c.to.length c.data _ _ pa pc ta tc w (fun o => isPath_any c.path pa pc _ lo hi (hk o).1) (fun o => isPath_any c.to ta tc _ lo hi (hk o).2.1)
  have e1 : ((allB c.path && decide ((c.path.length : Int) ≤ 4)) && !((c.path.length : Int) == 0)) = pathQ c.path := by
    by_cases h0 : (c.path.length : Int) = 0
    · simp [h0]
    · have h1 : 1 ≤ (c.path.length : Int) := by omega
      have h0' : ((c.path.length : Int) == 0) = false := by simpa using h0
      rw [pathQ, decide_eq_true h1, h0']
      simp
  have e2 : ((allB c.to && decide ((c.to.length : Int) ≤ 4)) && decide (0 < (c.to.length : Int))) = pathQ c.to := by
    by_cases h0 : 0 < (c.to.length : Int)
    · rw [pathQ, decide_eq_true h0, decide_eq_true (by omega : 1 ≤ (c.to.length : Int))]
      simp
    · rw [pathQ, decide_eq_false h0, decide_eq_false (by omega : ¬ 1 ≤ (c.to.length : Int))]
      simp
  rw [e1, e2] at h
  exact h

end Go.Proofs.YtigammadhpgahaaDoor
