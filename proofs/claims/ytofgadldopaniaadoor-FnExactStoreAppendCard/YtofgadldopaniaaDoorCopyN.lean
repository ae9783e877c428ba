/- copyNames: the same names in memory of their own. -/
import Derived.Test.YtofgadldopaniaaDoorLow
import Derived.Test.YtofgadldopaniaaDoorProg
import Derived.WalkKit
namespace Go.Proofs.YtofgadldopaniaaDoor
open Go.RowKit

set_option maxHeartbeats 1000000 in
theorem copyNames_any (l : List ByteArray) (v : Value) (w : World) (lo hi : Nat) (hv : StrsAt w lo hi v l) (hl : l.length ≤ 1048576) :
    Calls Tryd.prog 48 #[v] w fun e w' => ∃ v', e = .returned v' ∧ OwnStrs w' w.heap.size w'.heap.size w.heap.size v' l ∧ Below w.heap.size w w' := by
  obtain ⟨a, cap, rfl, _, hs, hc⟩ := hv
  obtain ⟨iS, hiS', hzS, hsS, hbS⟩ := info_S
  have hiS := hide hiS'
  clear hiS'
  by_cases h0 : 0 < l.length
  · obtain ⟨b, o, rfl, _, _, hcell⟩ := hc h0
    have HS := hide hs
    have HC : Hid (∀ j u, (l.map Value.string)[j]? = some u → w.cell? ((⟨b, o, none⟩ : Addr).add j) = some u) := fun j u hu => by
      rw [List.getElem?_map] at hu
      by_cases hj : j < l.length
      · rw [List.getElem?_eq_getElem hj] at hu
        have e : Addr.add ⟨b, o, none⟩ j = ⟨b, o + j, none⟩ := by unfold Addr.add; split <;> simp_all
        rw [e, hcell j hj]
        exact hu
      · rw [List.getElem?_eq_none (by omega)] at hu; cases hu
    clear hs hc hcell
    go_enter Tryd.func48, Tryd.ntmps48
    go_wp2_with (at_builtin; refine wpList_append_own_at _ rfl _ _ 28 rfl w.heap.size 9 iS (.string ⟨#[]⟩) 1 16 Tryd.underlying28 hiS.out hzS hsS hbS rfl (by decide) (.slice none 0 0) 0 [] rfl (World.ownsRow_nil _ _ _ _) ⟨b, o, none⟩ l.length cap (l.map .string) rfl (by simp) HC.out (by simp [Value.oneCell']) (by unfold maxLen; omega) (by omega) (Nat.le_refl _) ?_; intro v' w1 hown hgrow hnil hat; have HOWN := hide hown; have HGROW := hide hgrow; have HAT := hide hat; clear hown hgrow hat hnil)
    go_ret
    have hown : w1.ownsRow w.heap.size 9 1 v' l.length (l.map .string) := by simpa using HOWN.out
    refine ⟨_, rfl, ownStrs_of_row hown (by unfold maxLen; omega) HS.out w.heap.size ?_, (Below.refl _ _).grown HGROW.out (Nat.le_refl _) (fun k h => by cases h)⟩
    rcases HAT.out with h | h
    · obtain ⟨g, cap', rfl, _, _⟩ := ownsRow_at hown h0
      cases h
    · exact .inl h
  · have hl0 : l = [] := List.eq_nil_of_length_eq_zero (by omega)
    subst hl0
    clear hc hs
    cases a with
    | none =>
      go_enter Tryd.func48, Tryd.ntmps48
      go_wp2
      go_ret
      exact ⟨_, rfl, ownStrs_nil _ _ _ _ _ _, Below.refl _ _⟩
    | some ad =>
      go_enter Tryd.func48, Tryd.ntmps48
      go_wp2_with (at_builtin; refine wpList_append_own_at _ rfl _ _ 28 rfl w.heap.size 9 iS (.string ⟨#[]⟩) 1 16 Tryd.underlying28 hiS.out hzS hsS hbS rfl (by decide) (.slice none 0 0) 0 [] rfl (World.ownsRow_nil _ _ _ _) ad 0 cap [] rfl (by simp) (fun j u h => by simp at h) (fun u h => by simp at h) (by unfold maxLen; omega) (by omega) (Nat.le_refl _) ?_; intro v' w1 hown hgrow hnil hat; have HGROW := hide hgrow; have HN : Hid (v' = .slice none 0 0) := hnil.2 ⟨rfl, rfl⟩; clear hown hgrow hat hnil)
      go_ret
      have hn := HN.out
      subst hn
      exact ⟨_, rfl, ownStrs_nil _ _ _ _ _ _, (Below.refl _ _).grown HGROW.out (Nat.le_refl _) (fun k h => by cases h)⟩

end Go.Proofs.YtofgadldopaniaaDoor
