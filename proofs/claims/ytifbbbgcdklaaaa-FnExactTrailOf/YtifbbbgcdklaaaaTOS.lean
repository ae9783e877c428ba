/- TrailOf, the specification's: what it gives. -/
import Derived.Test.YtifbbbgcdklaaaaSpTO
import Derived.Test.YtifbbbgcdklaaaaTOA
namespace Go.Proofs.Ytifbbbgcdklaaaa
open Go.RowKit

theorem specTrailOf_any (n : Nat) (t : T n) (nv kv : Value) (c : Cl) (pa ta : Option Addr) (w : World) (lo hi lo' hi' : Nat) (hrep : Rep w lo hi n t nv kv) (hc : ClOk w lo' hi' c pa c.path.length ta c.to.length)
    (hhi : hi ≤ w.heap.size) (hhi' : hi' ≤ w.heap.size) (hcnt : countT n t ≤ 1048576) (hl1 : c.path.length ≤ 1048576) (hl2 : c.to.length ≤ 1048576) :
    Calls Try.prog 6 #[aggT n t nv kv, aggC c pa c.path.length ta c.to.length] w fun e w' => ∃ v, e = .returned v ∧ MksAt w' w.heap.size w'.heap.size v (trailT n t c) ∧ Below w.heap.size w w' := by
  obtain ⟨va, vm, vc, ua, um, uc, rfl, rfl⟩ := hrep.slices
  exact specTrailOf_at (headT n t).1 (headT n t).2.1 (headT n t).2.2 va vm vc ua um uc c.kind c.path c.to c.num c.data pa c.path.length ta c.to.length (okT n t) (callB c) (headT (orZero (atT n t c.path)).1 (orZero (atT n t c.path)).2).1 (trailT n t c) rfl w lo' hi'
    (fun W hW => specTreeOk_any n t _ _ W lo hi (Rep.keep hW hhi _ _ _ _ hrep) (Nat.le_trans hhi hW.size) hcnt)
    (fun W hW => l2CallOk_any c pa _ ta _ W lo' hi' (hc.keep hW hhi') (Nat.le_trans hhi' hW.size))
    (fun hok W hW => (at_any n t _ _ pa c.path.length c.path W lo hi lo' hi' (Rep.keep hW hhi _ _ _ _ hrep) (allGood_of_ok n t hok) (hc.1.keep hW hhi') (Nat.le_refl _) (by unfold maxLen; omega) (Nat.le_trans hhi hW.size) (Nat.le_trans hhi' hW.size)).mono fun e w' ⟨nv', kv', h1, h2, h3⟩ => by
      obtain ⟨xa, xm, xc, ya, ym, yc, rfl, rfl⟩ := h2.slices
      exact ⟨_, _, _, _, _, _, _, _, _, h1, h3⟩)
    hc.1 hc.2.1 hhi' hl1 hl2 callB_path callB_to

end Go.Proofs.Ytifbbbgcdklaaaa
