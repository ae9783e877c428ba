/- copyNames: the same names in memory of their own. -/
import Derived.Test.YteefplenmpnkiaaProg
import Derived.Test.YteefplenmpnkiaaKid
namespace Go.Proofs.Yteefplenmpnkiaa
open Go.RowKit

theorem Blk.atn {w : World} {n : Nat} {A : Array Value} {t : TypeId} (h : w.heap.size = n) : Blk (w.alloc (.cells A t)) n A t := by rw [← h]; exact Blk.new w A t

theorem ownStrs_of_row {w : World} {base : Nat} {v : Value} {l : List ByteArray} (h : w.ownsRow base 9 1 v l.length (l.map .string)) (hl : l.length ≤ maxLen) (hs : ∀ (i : Nat) (h : i < l.length), l[i].size ≤ maxLen) (b : Nat) (hb : v.ownBlock = some b ∨ l = []) :
    OwnStrs w base w.heap.size b v l := by
  obtain ⟨a, cap, rfl⟩ := ownsRow_form h
  refine ⟨⟨a, cap, rfl, fun h0 => ?_⟩, hl, hs, fun h0 => ?_, fun i hi => ?_⟩
  · obtain ⟨g, cap', hv, _, _⟩ := ownsRow_at h h0
    simp only [Value.slice.injEq, true_and] at hv
    obtain ⟨rfl, rfl⟩ := hv
    rcases hb with hb | rfl
    · simp [Value.ownBlock] at hb; rw [hb]
    · simp at h0
  · rcases hb with hb | rfl
    · exact h.lt b hb
    · simp at h0
  · obtain ⟨g, cap', hv, _, _⟩ := ownsRow_at h (by omega)
    simp only [Value.slice.injEq, true_and] at hv
    obtain ⟨rfl, rfl⟩ := hv
    have hg : g = b := by
      rcases hb with hb | rfl
      · simpa [Value.ownBlock] using hb
      · simp at hi
    subst hg
    refine ⟨?_, h.frozenAt i⟩
    rw [h.cellAt i (by omega), List.getElem?_map, List.getElem?_eq_getElem hi]; rfl

theorem ownStrs_nil (w : World) (lo hi b : Nat) (a : Option Addr) (cap : Nat) : OwnStrs w lo hi b (.slice a 0 cap) [] :=
  ⟨⟨a, cap, rfl, fun h => by simp at h⟩, Nat.zero_le _, fun i h => by simp at h, fun h => by simp at h, fun i h => by simp at h⟩

set_option maxHeartbeats 1000000 in
theorem copyNames_any (l : List ByteArray) (v : Value) (w : World) (lo hi : Nat) (hv : StrsAt w lo hi v l) (hl : l.length ≤ 1048576) :
    Calls Try.prog 26 #[v] w fun e w' => ∃ v', e = .returned v' ∧ OwnStrs w' w.heap.size w'.heap.size w.heap.size v' l ∧ Below w.heap.size w w' := by
  obtain ⟨a, cap, rfl, _, hs, hc⟩ := hv
  obtain ⟨iS, hiS', hzS, hsS, hbS⟩ := info_S
  have hiS := hide hiS'
  clear hiS'
  by_cases h0 : 0 < l.length
  · obtain ⟨b, o, rfl, _, _, hcell⟩ := hc h0
    have HS := hide hs
    have HC : Hid (∀ j u, (l.map Value.string)[j]? = some u → w.cell? ((⟨b, o, none⟩ : Addr).add j) = some u) := fun j u hu => by
      rw [List.getElem?_map] at hu
      by_cases hj : j < l.length
      · rw [List.getElem?_eq_getElem hj] at hu
        have e : Addr.add ⟨b, o, none⟩ j = ⟨b, o + j, none⟩ := by unfold Addr.add; split <;> simp_all
        rw [e, hcell j hj]
        exact hu
      · rw [List.getElem?_eq_none (by omega)] at hu; cases hu
    clear hs hc hcell
    go_enter Try.func26, Try.ntmps26
    go_wp2_with (at_builtin; refine wpList_append_own_at _ rfl _ _ 22 rfl w.heap.size 9 iS (.string ⟨#[]⟩) 1 16 Try.underlying22 hiS.out hzS hsS hbS rfl (by decide) (.slice none 0 0) 0 [] rfl (World.ownsRow_nil _ _ _ _) ⟨b, o, none⟩ l.length cap (l.map .string) rfl (by simp) HC.out (by simp [Value.oneCell']) (by unfold maxLen; omega) (by omega) (Nat.le_refl _) ?_; intro v' w1 hown hgrow hnil hat; have HOWN := hide hown; have HGROW := hide hgrow; have HAT := hide hat; clear hown hgrow hat hnil)
    go_ret
    have hown : w1.ownsRow w.heap.size 9 1 v' l.length (l.map .string) := by simpa using HOWN.out
    refine ⟨_, rfl, ownStrs_of_row hown (by unfold maxLen; omega) HS.out w.heap.size ?_, (Below.refl _ _).grown HGROW.out (Nat.le_refl _) (fun k h => by cases h)⟩
    rcases HAT.out with h | h
    · obtain ⟨g, cap', rfl, _, _⟩ := ownsRow_at hown h0
      cases h
    · exact .inl h
  · have hl0 : l = [] := List.eq_nil_of_length_eq_zero (by omega)
    subst hl0
    clear hc hs
    cases a with
    | none =>
      go_enter Try.func26, Try.ntmps26
      go_wp2
      go_ret
      exact ⟨_, rfl, ownStrs_nil _ _ _ _ _ _, Below.refl _ _⟩
    | some ad =>
      go_enter Try.func26, Try.ntmps26
      go_wp2_with (at_builtin; refine wpList_append_own_at _ rfl _ _ 22 rfl w.heap.size 9 iS (.string ⟨#[]⟩) 1 16 Try.underlying22 hiS.out hzS hsS hbS rfl (by decide) (.slice none 0 0) 0 [] rfl (World.ownsRow_nil _ _ _ _) ad 0 cap [] rfl (by simp) (fun j u h => by simp at h) (fun u h => by simp at h) (by unfold maxLen; omega) (by omega) (Nat.le_refl _) ?_; intro v' w1 hown hgrow hnil hat; have HGROW := hide hgrow; have HN : Hid (v' = .slice none 0 0) := hnil.2 ⟨rfl, rfl⟩; clear hown hgrow hat hnil)
      go_ret
      have hn := HN.out
      subst hn
      exact ⟨_, rfl, ownStrs_nil _ _ _ _ _ _, (Below.refl _ _).grown HGROW.out (Nat.le_refl _) (fun k h => by cases h)⟩

end Go.Proofs.Yteefplenmpnkiaa
