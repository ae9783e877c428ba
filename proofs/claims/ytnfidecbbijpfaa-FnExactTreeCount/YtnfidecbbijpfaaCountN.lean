/- The program's TreeCount, of every tree. -/
import Derived.Test.YtnfidecbbijpfaaProg
import Derived.Test.YtnfidecbbijpfaaCountW
namespace Go.Proofs.Ytnfidecbbijpfaa
open Go.RowKit Go.Shelf
attribute [local go_sem] Oper.semAt_some

set_option maxRecDepth 100000 in
set_option maxHeartbeats 4000000 in
theorem implCount_no (n : Nat) (t : T n) (nv kv : Value) (w : World) (lo hi : Nat) (hrep : Rep w lo hi n t nv kv) (hhi : hi ≤ w.heap.size) (hok : okT n t = false) :
    Calls Try.prog 12 #[aggT n t nv kv] w fun e w' => e = .returned (.int .i64 0) ∧ Below w.heap.size w w' := by
  obtain ⟨va, vm, vc, ua, um, uc, rfl, rfl⟩ := hrep.slices
  have HC : Hid (∀ (W : World), Below w.heap.size w W → Calls Try.prog 25 #[.agg #[.bool (headT n t).1, .int .i64 (headT n t).2.1, .string (headT n t).2.2, .slice va vm vc, .slice ua um uc]] W fun e w' => ∃ po, e = .returned (.tuple #[.pointer po, .bool false]) ∧ Below w.heap.size w w') := fun W hb =>
    (rootOf_any n t _ _ W lo hi (Rep.keep hb hhi _ _ _ _ hrep) (Nat.le_trans hhi hb.size)).mono fun e w' ⟨po, h1, h2, _⟩ => ⟨po, by rw [h1, hok], hb.trans (h2.mono hb.size)⟩
  clear hrep hok
  have HA : Hid (∀ o, Below w.heap.size w (w.alloc o)) := fun o => (Below.refl _ _).alloc (Nat.le_refl _) o
  show Calls Try.prog 12 #[.agg #[.bool (headT n t).1, .int .i64 (headT n t).2.1, .string (headT n t).2.2, .slice va vm vc, .slice ua um uc]] w _
  generalize (headT n t).1 = hd at HC ⊢
  generalize (headT n t).2.1 = hm at HC ⊢
  generalize (headT n t).2.2 = hda at HC ⊢
  refine (callsIn_wide (n := 9)).1 ?_
  refine callsIn_of_wp_marks Try.func12 rfl trivial ?_ rfl
  simp only [Try.ntmps12, List.size_toArray, List.length_cons, List.length_nil, Nat.reduceAdd, Nat.reduceSub, Array.replicate_succ, Array.replicate_zero, List.push_toArray, List.append_toArray, List.nil_append, List.cons_append]
  gi_wp2_with (first
    | (refine ⟨trivial, ?_⟩
       gi_at_call 25
       refine (callsIn_wide.2 (HC.out _ (HA.out _))).mono ?_
       rintro e w1 ⟨po, rfl, hb1⟩
       have HB1 := hide hb1
       clear hb1))
  refine ⟨_, results_tmp rfl _ _ _, rfl, HB1.out⟩

theorem implCount (hWalk : WalkAll) : ImplCountC := by
  intro n t nv kv w lo hi hrep hhi
  cases n with
  | zero => exact Empty.elim (show Empty from t)
  | succ n =>
    cases hok : okT (n + 1) t with
    | true => rw [numT, if_pos hok]; exact implCount_yes hWalk n t nv kv w lo hi hrep hhi hok
    | false => rw [numT, if_neg (by rw [hok]; decide)]; exact implCount_no (n + 1) t nv kv w lo hi hrep hhi hok

end Go.Proofs.Ytnfidecbbijpfaa
