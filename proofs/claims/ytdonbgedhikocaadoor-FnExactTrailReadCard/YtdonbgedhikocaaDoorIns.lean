/- slices.Insert at the end of a row of one's own. -/
import Derived.Test.YtdonbgedhikocaaDoorLow
namespace Go.Proofs.YtdonbgedhikocaaDoor
open Go.RowKit

theorem info_N : ∃ i, Tryd.prog.info? 81 = some i ∧ i.zero = some (.pointer none) ∧ i.size = 1 ∧ i.bytes = 8 := by
  obtain ⟨i, hi, h⟩ := Option.map_eq_some_iff.1 (show (Tryd.prog.info? 81).map (fun i => (i.zero, i.size, i.bytes)) = some (some (.pointer none), 1, 8) by kernel_rfl)
  simp only [Prod.mk.injEq] at h
  exact ⟨i, hi, h.1, h.2.1, h.2.2⟩
set_option maxHeartbeats 1000000 in
set_option maxRecDepth 100000 in
theorem insS_end (x : ByteArray) (v : Value) (n : Nat) (xs : List Value) (b : Nat) (w : World) (lo : Nat) (hown : w.ownsRow lo 9 1 v n xs) (hlo : lo ≤ w.heap.size) (hn : n ≤ 1000) (hx : w.cell? ⟨b, 0, none⟩ = some (.string x)) :
    Calls Tryd.prog 59 #[v, .int .i64 n, .slice (some ⟨b, 0, none⟩) 1 1] w fun e w' => ∃ v', e = .returned v' ∧ w'.ownsRow lo 9 1 v' (n + 1) (xs ++ [.string x]) ∧ w.grownBy w' v.ownBlock ∧ (v'.ownBlock = v.ownBlock ∨ v'.ownBlock = some w.heap.size) := by
  obtain ⟨iS, hiS', hzS, hsS, hbS⟩ := info_S
  have hiS := hide hiS'
  clear hiS'
  have HOwn := hide hown
  have hnews : ∀ (j : Nat) u, [.string x][j]? = some u → w.cell? ((⟨b, 0, none⟩ : Addr).add j) = some u := fun j u hu => by
    match j, hu with
    | 0, hu =>
      simp only [List.getElem?_cons_zero, Option.some.injEq] at hu
      subst hu
      rw [show (⟨b, 0, none⟩ : Addr).add 0 = ⟨b, 0, none⟩ by simp [Addr.add]]
      exact hx
  have HNews := hide hnews
  clear hnews hx
  rcases hown.2 with ⟨rfl, rfl⟩ | ⟨g, cap, cur, rfl, hg1, hg2, hcap, hmax, _⟩
  · clear hown
    go_enter Tryd.func59, Tryd.ntmps59
    go_wp2_with (at_builtin; refine wpList_append_own_at _ rfl _ _ 28 rfl lo 9 iS (.string ⟨#[]⟩) 1 16 Tryd.underlying28 hiS.out hzS hsS hbS rfl (by decide) _ 0 xs rfl HOwn.out ⟨b, 0, none⟩ 1 1 [.string x] rfl (by simp) HNews.out (by simp [Value.oneCell']) (by unfold maxLen; omega) (by omega) hlo ?_; intro v' w1 hown hgrow hnil hat; have HOWN := hide hown; have HGROW := hide hgrow; have HAT := hide hat; clear hown hgrow hat hnil)
    go_ret
    exact ⟨_, rfl, HOWN.out, HGROW.out, HAT.out⟩
  · unfold maxLen at hmax
    clear hown hg2
    have hnn : ((n : Int) == (n : Int)) = true := by simp
    go_enter Tryd.func59, Tryd.ntmps59
    go_wp2_with (at_builtin; refine wpList_append_own_at _ rfl _ _ 28 rfl lo 9 iS (.string ⟨#[]⟩) 1 16 Tryd.underlying28 hiS.out hzS hsS hbS rfl (by decide) _ n xs rfl HOwn.out ⟨b, 0, none⟩ 1 1 [.string x] rfl (by simp) HNews.out (by simp [Value.oneCell']) (by unfold maxLen; omega) (by omega) hlo ?_; intro v' w1 hown hgrow hnil hat; have HOWN := hide hown; have HGROW := hide hgrow; have HAT := hide hat; clear hown hgrow hat hnil)
    all_goals
      go_ret
      exact ⟨_, rfl, HOWN.out, HGROW.out, HAT.out⟩
set_option maxHeartbeats 1000000 in
set_option maxRecDepth 100000 in
theorem insN_end (x : Option Addr) (v : Value) (n : Nat) (xs : List Value) (b : Nat) (w : World) (lo : Nat) (hown : w.ownsRow lo 81 1 v n xs) (hlo : lo ≤ w.heap.size) (hn : n ≤ 1000) (hx : w.cell? ⟨b, 0, none⟩ = some (.pointer x)) :
    Calls Tryd.prog 60 #[v, .int .i64 n, .slice (some ⟨b, 0, none⟩) 1 1] w fun e w' => ∃ v', e = .returned v' ∧ w'.ownsRow lo 81 1 v' (n + 1) (xs ++ [.pointer x]) ∧ w.grownBy w' v.ownBlock ∧ (v'.ownBlock = v.ownBlock ∨ v'.ownBlock = some w.heap.size) := by
  obtain ⟨iS, hiS', hzS, hsS, hbS⟩ := info_N
  have hiS := hide hiS'
  clear hiS'
  have HOwn := hide hown
  have hnews : ∀ (j : Nat) u, [.pointer x][j]? = some u → w.cell? ((⟨b, 0, none⟩ : Addr).add j) = some u := fun j u hu => by
    match j, hu with
    | 0, hu =>
      simp only [List.getElem?_cons_zero, Option.some.injEq] at hu
      subst hu
      rw [show (⟨b, 0, none⟩ : Addr).add 0 = ⟨b, 0, none⟩ by simp [Addr.add]]
      exact hx
  have HNews := hide hnews
  clear hnews hx
  rcases hown.2 with ⟨rfl, rfl⟩ | ⟨g, cap, cur, rfl, hg1, hg2, hcap, hmax, _⟩
  · clear hown
    go_enter Tryd.func60, Tryd.ntmps60
    go_wp2_with (at_builtin; refine wpList_append_own_at _ rfl _ _ 60 rfl lo 81 iS (.pointer none) 1 8 Tryd.underlying60 hiS.out hzS hsS hbS rfl (by decide) _ 0 xs rfl HOwn.out ⟨b, 0, none⟩ 1 1 [.pointer x] rfl (by simp) HNews.out (by simp [Value.oneCell']) (by unfold maxLen; omega) (by omega) hlo ?_; intro v' w1 hown hgrow hnil hat; have HOWN := hide hown; have HGROW := hide hgrow; have HAT := hide hat; clear hown hgrow hat hnil)
    go_ret
    exact ⟨_, rfl, HOWN.out, HGROW.out, HAT.out⟩
  · unfold maxLen at hmax
    clear hown hg2
    have hnn : ((n : Int) == (n : Int)) = true := by simp
    go_enter Tryd.func60, Tryd.ntmps60
    go_wp2_with (at_builtin; refine wpList_append_own_at _ rfl _ _ 60 rfl lo 81 iS (.pointer none) 1 8 Tryd.underlying60 hiS.out hzS hsS hbS rfl (by decide) _ n xs rfl HOwn.out ⟨b, 0, none⟩ 1 1 [.pointer x] rfl (by simp) HNews.out (by simp [Value.oneCell']) (by unfold maxLen; omega) (by omega) hlo ?_; intro v' w1 hown hgrow hnil hat; have HOWN := hide hown; have HGROW := hide hgrow; have HAT := hide hat; clear hown hgrow hat hnil)
    all_goals
      go_ret
      exact ⟨_, rfl, HOWN.out, HGROW.out, HAT.out⟩

end Go.Proofs.YtdonbgedhikocaaDoor
