/- Entries: the specification says whether one is ok. -/
import Derived.Test.YtkidfflmbfnogaaDoorPathB
import Derived.Test.YtkidfflmbfnogaaDoorEnts
namespace Go.Proofs.YtkidfflmbfnogaaDoor
open Go.RowKit

/-- Is an entry ok: of its path's length, what becomes of it, whether it is a directory's, its mode, its data's length; whether the names are names (q), the mode is one (r), the data are none (z). -/
def entQ (l wt : Int) (d : Bool) (m xs : Int) (q r z : Bool) : Bool :=
  if (0 < l ∧ q = false) ∨ r = false ∨ 24 < xs then false
  else if wt = 1 then decide (0 < l) && !d && decide (m = 0) && z
  else if wt = 2 then decide (0 < l) && (!d || z)
  else if wt = 3 then !d && z
  else if wt = 4 then decide (0 < l) && !d && decide (m = 0)
  else false
abbrev modeQ (m : Int) : Bool := decide (0 ≤ m) && decide (m ≤ 7)
def entB (e : Ent) : Bool := entQ e.path.length e.what e.dir e.mode e.data.size (pathQ e.path) (modeQ e.mode) e.data.toList.isEmpty

set_option maxHeartbeats 4000000 in
theorem l3EntryOk_at (p : List ByteArray) (wt : Int) (d : Bool) (m : Int) (x : ByteArray) (q r z : Bool) (pa : Option Addr) (pc : Nat) (w : World)
    (hq : ∀ o, Calls Tryd.prog 30 #[.slice pa p.length pc] (w.alloc o) fun e w' => e = .returned (.bool q) ∧ w' = w.alloc o)
    (hr : ∀ W, Calls Tryd.prog 31 #[.int .i64 m, .int .i64 0, .int .i64 7] W fun e w' => e = .returned (.bool r) ∧ w' = W)
    (hz : x.toList.isEmpty = z) :
    Calls Tryd.prog 19 #[.agg #[.slice pa p.length pc, .int .i64 wt, .bool d, .int .i64 m, .string x]] w fun e w' => e = .returned (.bool (entQ p.length wt d m x.size q r z)) ∧ Below w.heap.size w w' := by
  have HA : Hid (∀ o, Below w.heap.size w (w.alloc o)) := fun o => (Below.refl _ _).alloc (Nat.le_refl _) o
  cases q <;> cases r <;> cases z <;> cases d
  all_goals
    go_enter Tryd.func19, Tryd.ntmps19
    go_wp2_with (first | (go_at_call 30; refine (hq _).mono ?_; rintro e w' ⟨rfl, rfl⟩) | (go_at_call 31; refine (hr _).mono ?_; rintro e w' ⟨rfl, rfl⟩))
  all_goals
    go_ret
    refine ⟨?_, HA.out _⟩
    clear hq hr HA
    show Ending.returned (Value.bool _) = Ending.returned (Value.bool _)
    congr 2
    unfold entQ
    first | (simp_all; done) | (simp_all; omega; done) | (simp_all; rw [decide_eq_false (by omega)]; by_cases hm : m = 0 <;> simp [hm]; done)

theorem l3EntryOk_any (e : Ent) (pa : Option Addr) (pc : Nat) (w : World) (lo hi : Nat) (he : EntOk w lo hi e pa pc) (hhi : hi ≤ w.heap.size) :
    Calls Tryd.prog 19 #[aggE e pa pc] w fun r w' => r = .returned (.bool (entB e)) ∧ Below w.heap.size w w' :=
  l3EntryOk_at e.path e.what e.dir e.mode e.data _ _ _ pa pc w
    (fun o => l2PathOk_any e.path pa pc (w.alloc o) lo hi (he.1.keep ((Below.refl w.heap.size w).alloc (Nat.le_refl _) o) hhi))
    (fun W => l1In_any e.mode 0 7 W) rfl

end Go.Proofs.YtkidfflmbfnogaaDoor
