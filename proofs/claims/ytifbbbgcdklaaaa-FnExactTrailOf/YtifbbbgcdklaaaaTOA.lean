/- TrailOf, the program's: what it gives. -/
import Derived.Test.YtifbbbgcdklaaaaImTO
namespace Go.Proofs.Ytifbbbgcdklaaaa
open Go.RowKit

theorem callB_path {c : Cl} (h : callB c = true) : 0 < c.path.length := by
  have hq : pathQ c.path = true := by
    cases hq : pathQ c.path with
    | true => rfl
    | false =>
      unfold callB callQ at h
      rw [hq] at h
      simp at h
  simp only [pathQ, Bool.and_eq_true, decide_eq_true_eq] at hq
  omega
theorem callB_to {c : Cl} (h : callB c = true) (h5 : c.kind = 5) : 0 < c.to.length := by
  have hq : pathQ c.to = true := by
    cases hq : pathQ c.to with
    | true => rfl
    | false =>
      unfold callB callQ at h
      rw [hq, h5] at h
      simp at h
  simp only [pathQ, Bool.and_eq_true, decide_eq_true_eq] at hq
  omega

theorem implTrailOf_any (n : Nat) (t : T n) (nv kv : Value) (c : Cl) (pa ta : Option Addr) (w : World) (lo hi lo' hi' : Nat) (hrep : Rep w lo hi n t nv kv) (hc : ClOk w lo' hi' c pa c.path.length ta c.to.length)
    (hhi : hi ≤ w.heap.size) (hhi' : hi' ≤ w.heap.size) (hl1 : c.path.length ≤ 1048576) (hl2 : c.to.length ≤ 1048576) :
    Calls Try.prog 9 #[aggT n t nv kv, aggC c pa c.path.length ta c.to.length] w fun e w' => ∃ v g bs, e = .returned v ∧ OwnMks w' w.heap.size w'.heap.size g bs v (trailT n t c) ∧ Below w.heap.size w w' := by
  obtain ⟨va, vm, vc, ua, um, uc, rfl, rfl⟩ := hrep.slices
  exact implTrailOf_at (headT n t).1 (headT n t).2.1 (headT n t).2.2 va vm vc ua um uc c.kind c.path c.to c.num c.data pa c.path.length ta c.to.length (okT n t) (callB c) (dirAt (atT n t c.path)) (trailT n t c) rfl w
    (fun W hW => (rootOf_any n t _ _ W lo hi (Rep.keep hW hhi _ _ _ _ hrep) (Nat.le_trans hhi hW.size)).mono fun e w' ⟨po, h1, h2, h3⟩ => ⟨po, h1, h2, fun hok => by
      obtain ⟨b, rfl, hd⟩ := h3 hok
      have hB : Below w.heap.size w w' := hW.trans (h2.mono hW.size)
      exact ⟨b, rfl, paD_any n t (allGood_of_ok n t hok) b c.path _ w' W.heap.size w'.heap.size lo' hi' (Nat.le_refl _) (Nat.le_trans hhi' hB.size) (ok_dir hok hd) (hc.1.keep hB hhi')⟩⟩)
    (fun W hW => isCall_any c pa _ ta _ W lo' hi' (hc.keep hW hhi') (Nat.le_trans hhi' hW.size))
    (fun W hW => (copyNames_any c.path _ W lo' hi' (hc.1.keep hW hhi') hl1).mono fun e w' ⟨v', h1, h2, h3⟩ => by
      obtain ⟨a, cap, rfl, _⟩ := h2.1
      exact ⟨a, cap, h1, h2, h3⟩)
    (fun W hW => (copyNames_any c.to _ W lo' hi' (hc.2.1.keep hW hhi') hl2).mono fun e w' ⟨v', h1, h2, h3⟩ => by
      obtain ⟨a, cap, rfl, _⟩ := h2.1
      exact ⟨a, cap, h1, h2, h3⟩)
    callB_path callB_to

theorem trail_cnt (n : Nat) (t : T n) (c : Cl) (h1 : c.path.length ≤ 1048576) (h2 : c.to.length ≤ 1048576) : ((trailT n t c).map cM).sum ≤ 2097154 := by
  unfold trailT
  repeat' split
  all_goals simp [cM]
  all_goals omega

end Go.Proofs.Ytifbbbgcdklaaaa
