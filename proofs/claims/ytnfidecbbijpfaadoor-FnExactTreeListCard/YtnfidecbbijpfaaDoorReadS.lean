/- TreeRead, the program's and the specification's. -/
import Derived.Test.YtnfidecbbijpfaaDoorProg
import Derived.Test.YtnfidecbbijpfaaDoorRead
namespace Go.Proofs.YtnfidecbbijpfaaDoor
open Go.RowKit

theorem codeOf_err (c : Int) (W : World) (hg : Laid0 W) : Calls Tryd.prog 23 #[errV c] W fun e w' => e = .returned (.int .i64 c) ∧ Below W.heap.size W w' := by
  by_cases h : c = 0
  · subst h
    rw [errV, if_pos rfl]
    exact codeOf_nil W
  · rw [errV, if_neg h]
    exact codeOf_ref c W hg

set_option maxHeartbeats 2000000 in
theorem implTreeRead_any (n : Nat) (t : T n) (nv kv : Value) (pv : Value) (path : List ByteArray) (a k : Int) (w : World) (lo hi lo' hi' : Nat) (hrep : Rep w lo hi n t nv kv) (hpath : StrsAt w lo' hi' pv path)
    (hhi : hi ≤ w.heap.size) (hhi' : hi' ≤ w.heap.size) (hg : Laid0 w) :
    Calls Tryd.prog 10 #[aggT n t nv kv, pv, .int .i64 a, .int .i64 k] w fun e w' => e = .returned (.tuple #[.string (readT n t path a k).1, .int .i64 (readT n t path a k).2]) ∧ Below w.heap.size w w' := by
  obtain ⟨va, vm, vc, ua, um, uc, rfl, rfl⟩ := hrep.slices
  obtain ⟨pa, pc, rfl⟩ : ∃ pa pc, pv = .slice pa path.length pc := by obtain ⟨pa, pc, h, _⟩ := hpath; exact ⟨pa, pc, h⟩
  have HRe : Hid (∀ W, Below w.heap.size w W → Calls Tryd.prog 22 #[.agg #[.bool (headT n t).1, .int .i64 (headT n t).2.1, .string (headT n t).2.2, .slice va vm vc, .slice ua um uc], .slice pa path.length pc, .int .i64 a, .int .i64 k] W fun e w' => e = .returned (.tuple #[.string (readT n t path a k).1, errV (readT n t path a k).2]) ∧ Below W.heap.size W w') := fun W hW =>
    readFile_any n t _ _ _ path a k W lo hi lo' hi' (Rep.keep hW hhi _ _ _ _ hrep) (hpath.keep hW hhi') (Nat.le_trans hhi hW.size) (Nat.le_trans hhi' hW.size)
  have HCo : Hid (∀ W, Below w.heap.size w W → Calls Tryd.prog 23 #[errV (readT n t path a k).2] W fun e w' => e = .returned (.int .i64 (readT n t path a k).2) ∧ Below W.heap.size W w') := fun W hW =>
    codeOf_err _ W (hg.below hW hg.lt)
  clear hrep hpath hg
  show Calls Tryd.prog 10 #[.agg #[.bool (headT n t).1, .int .i64 (headT n t).2.1, .string (headT n t).2.2, .slice va vm vc, .slice ua um uc], .slice pa path.length pc, .int .i64 a, .int .i64 k] w _
  generalize readT n t path a k = res at HRe HCo ⊢
  obtain ⟨s, c⟩ := res
  obtain ⟨ev, hev⟩ : ∃ ev, errV c = ev := ⟨_, rfl⟩
  simp only [hev] at HRe HCo
  have hform : ev = .nilIface ∨ ev = .iface 64 (.agg #[.int .i64 c]) := by
    rw [← hev, errV]
    split
    · exact .inl rfl
    · exact .inr rfl
  clear hev
  generalize (headT n t).1 = hd at HRe ⊢
  generalize (headT n t).2.1 = hm at HRe ⊢
  generalize (headT n t).2.2 = hda at HRe ⊢
  rcases hform with rfl | rfl
  all_goals
    go_enter Tryd.func10, Tryd.ntmps10
    go_wp2_with fail
    refine (HRe.out _ ((Below.refl _ _).alloc (Nat.le_refl _) _)).mono ?_
    rintro e w1 ⟨rfl, hB1⟩
    have HB1 : Hid (Below w.heap.size w w1) := Below.trans ((Below.refl _ _).alloc (Nat.le_refl _) _) (hB1.mono (by simp))
    clear hB1
    go_wp2_with fail
    refine (HCo.out w1 HB1.out).mono ?_
    rintro e w2 ⟨rfl, hB2⟩
    have HB2 : Hid (Below w.heap.size w w2) := HB1.out.trans (hB2.mono HB1.out.size)
    clear hB2
    go_wp2_with fail
    go_ret2
    exact ⟨rfl, HB2.out⟩

end Go.Proofs.YtnfidecbbijpfaaDoor
