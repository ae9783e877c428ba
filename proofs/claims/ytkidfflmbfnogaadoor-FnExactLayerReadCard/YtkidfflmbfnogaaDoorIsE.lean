/- Entries: the program says whether one is ok. -/
import Derived.Test.YtkidfflmbfnogaaDoorForm
namespace Go.Proofs.YtkidfflmbfnogaaDoor
open Go.RowKit

/-- By the form (ok: there is one; fm: it has a mode; fx: it has data), whether the path is the root's (L), whether it is not the mode that changes (T), whether there is a mode (M), the data's length; whether the path is one (q), the mode is one (r), the data are none (z). -/
def isQ (ok fm fx L T M : Bool) (xs : Int) (q r z : Bool) : Bool :=
  if ok = false ∨ q = false ∨ (L = true ∧ T = true) then false
  else if (fm = false ∧ M = true) ∨ (fx = false ∧ z = false) then false
  else r && decide (xs ≤ 24)

theorem ent_later {w w1 : World} {cs : Array Value} {t : TypeId} (h : Below (w.alloc (.cells cs t)).heap.size (w.alloc (.cells cs t)) w1) (o : Obj) (j : Nat) : (w1.alloc o).cell? ⟨w.heap.size, j, none⟩ = cs[j]? := by
  have h1 := h.alloc h.size o
  rw [h1.cell (p := ⟨w.heap.size, j, none⟩) (by show w.heap.size < _; simp)]
  exact cell_of_row _ _ j cs t (0, 0) (heap_alloc_last w _)
theorem ent_below {w w1 : World} {E : Obj} (h : Below (w.alloc E).heap.size (w.alloc E) w1) : Below w.heap.size w w1 :=
  ((Below.refl w.heap.size w).alloc (Nat.le_refl _) E).trans (h.mono (by simp))
theorem ent_below_alloc {w w1 : World} {E : Obj} (h : Below (w.alloc E).heap.size (w.alloc E) w1) (o : Obj) : Below w.heap.size w (w1.alloc o) :=
  (ent_below h).alloc (ent_below h).size o

set_option maxRecDepth 100000 in
set_option maxHeartbeats 8000000 in
theorem isEntry_at (p : List ByteArray) (wt : Int) (d : Bool) (m : Int) (x : ByteArray) (s : ByteArray) (fc : Int) (fd fm fx ok q r z L T M : Bool) (pa : Option Addr) (pc : Nat) (w : World)
    (hf : ∀ o, Calls Tryd.prog 43 #[.agg #[.slice pa p.length pc, .int .i64 wt, .bool d, .int .i64 m, .string x]] (w.alloc o) fun e w' => e = .returned (formT s fc fd fm fx ok) ∧ Below (w.alloc o).heap.size (w.alloc o) w')
    (hq : ∀ W, Below w.heap.size w W → Calls Tryd.prog 37 #[.slice pa p.length pc] W fun e w' => e = .returned (.bool q) ∧ w' = W)
    (hr : ∀ W, Calls Tryd.prog 39 #[.int .i64 m] W fun e w' => e = .returned (.bool r) ∧ w' = W)
    (hz : x.toList.isEmpty = z) (hL : ((p.length : Int) == 0) = L) (hT : (wt != 3) = T) (hM : (m != 0) = M) :
    Calls Tryd.prog 27 #[.agg #[.slice pa p.length pc, .int .i64 wt, .bool d, .int .i64 m, .string x]] w fun e w' => e = .returned (.bool (isQ ok fm fx L T M x.size q r z)) ∧ Below w.heap.size w w' := by
  obtain ho | ho : ok = false ∨ ok = true := by cases ok <;> simp
  · subst ho
    go_enter Tryd.func27, Tryd.ntmps27
    go_wp2_with (go_at_call 43; refine (hf _).mono ?_; rintro e w1 ⟨rfl, hB1⟩; have HA : Hid (∀ o, Below w.heap.size w (w1.alloc o)) := ent_below_alloc hB1; clear hB1)
    go_ret
    exact ⟨rfl, HA.out _⟩
  subst ho
  obtain hq1 | hq1 : q = false ∨ q = true := by cases q <;> simp
  · subst hq1
    go_enter Tryd.func27, Tryd.ntmps27
    go_wp2_with (first
      | (go_at_call 43; refine (hf _).mono ?_; rintro e w1 ⟨rfl, hB1⟩; have HA : Hid (∀ o, Below w.heap.size w (w1.alloc o)) := ent_below_alloc hB1; have e0 : ∀ o, (w1.alloc o).cell? ⟨w.heap.size, 0, none⟩ = some (.slice pa p.length pc) := fun o => ent_later hB1 o 0; clear hB1)
      | (go_at_call 37; refine (hq _ (HA.out _)).mono ?_; rintro e w' ⟨rfl, rfl⟩))
    go_ret
    exact ⟨rfl, HA.out _⟩
  subst hq1
  have c1 : (L = true ∧ T = true) ∨ ((L = false ∨ (L = true ∧ T = false)) ∧ ((fm = false ∧ M = true) ∨ ((fm = true ∨ (fm = false ∧ M = false)) ∧ ((fx = false ∧ z = false) ∨ ((fx = true ∨ (fx = false ∧ z = true)) ∧ (r = true ∨ r = false)))))) := by
    cases L <;> cases T <;> cases fm <;> cases M <;> cases fx <;> cases z <;> cases r <;> simp
  rcases c1 with ⟨rfl, rfl⟩ | ⟨rfl | ⟨rfl, rfl⟩, ⟨rfl, rfl⟩ | ⟨rfl | ⟨rfl, rfl⟩, ⟨rfl, rfl⟩ | ⟨rfl | ⟨rfl, rfl⟩, rfl | rfl⟩⟩⟩
  all_goals
    go_enter Tryd.func27, Tryd.ntmps27
    go_wp2_with (first
      | (go_at_call 43; refine (hf _).mono ?_; rintro e w1 ⟨rfl, hB1⟩; have HA : Hid (∀ o, Below w.heap.size w (w1.alloc o)) := ent_below_alloc hB1; have e0 : ∀ o, (w1.alloc o).cell? ⟨w.heap.size, 0, none⟩ = some (.slice pa p.length pc) := fun o => ent_later hB1 o 0; have e1 : ∀ o, (w1.alloc o).cell? ⟨w.heap.size, 1, none⟩ = some (.int .i64 wt) := fun o => ent_later hB1 o 1; have e3 : ∀ o, (w1.alloc o).cell? ⟨w.heap.size, 3, none⟩ = some (.int .i64 m) := fun o => ent_later hB1 o 3; have e4 : ∀ o, (w1.alloc o).cell? ⟨w.heap.size, 4, none⟩ = some (.string x) := fun o => ent_later hB1 o 4; clear hB1)
      | (go_at_call 37; refine (hq _ (HA.out _)).mono ?_; rintro e w' ⟨rfl, rfl⟩)
      | (go_at_call 39; refine (hr _).mono ?_; rintro e w' ⟨rfl, rfl⟩))
  all_goals
    go_ret
    refine ⟨?_, HA.out _⟩
    clear hf hq hr HA e0 e1 e3 e4
    show Ending.returned (Value.bool _) = Ending.returned (Value.bool _)
    first | rfl | (simp [isQ]; done)

end Go.Proofs.YtkidfflmbfnogaaDoor
