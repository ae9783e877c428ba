/- Paths: both sides say whether one is ok. -/
import Derived.Test.YtigammadhpgahaaDoorLeaf
import Derived.Test.YtigammadhpgahaaDoorRep
namespace Go.Proofs.YtigammadhpgahaaDoor
open Go.RowKit

def allB (l : List ByteArray) : Bool := l.all nameB
abbrev pathQ (l : List ByteArray) : Bool := allB l && (decide (1 ≤ (l.length : Int)) && decide ((l.length : Int) ≤ 4))
theorem allB_snoc (l : List ByteArray) (k : Nat) (h : k < l.length) (ha : allB (l.take k) = true) (hp : nameB l[k] = true) : allB (l.take (k + 1)) = true := by
  unfold allB at *
  rw [List.take_succ_eq_append_getElem h, List.all_append, ha]
  simp [hp]
theorem allB_not (l : List ByteArray) (k : Nat) (h : k < l.length) (hp : nameB l[k] = false) : allB l = false := by
  unfold allB
  rw [List.all_eq_false]
  exact ⟨l[k], List.getElem_mem h, by simp [hp]⟩

set_option maxHeartbeats 1000000 in
theorem l2PathOk_any (l : List ByteArray) (pa : Option Addr) (pc : Nat) (w : World) (lo hi : Nat) (hv : StrsAt w lo hi (.slice pa l.length pc) l) :
    Calls Tryd.prog 22 #[.slice pa l.length pc] w fun e w' => e = .returned (.bool (allB l && (decide (1 ≤ (l.length : Int)) && decide ((l.length : Int) ≤ 4)))) ∧ w' = w := by
  obtain ⟨a, cap, he, hml, hsz, hc⟩ := hv
  simp only [Value.slice.injEq, true_and] at he
  obtain ⟨rfl, rfl⟩ := he
  unfold maxLen at hml
  go_enter Tryd.func22, Tryd.ntmps22
  go_wp2_with fail
  go_loop [3] (fun i => ∃ (k : Nat), k ≤ l.length ∧ i = .int .i64 k ∧ Hid (allB (l.take k) = true)) (fun i => l.length - (intOf i).toNat)
  case atStart => exact ⟨0, Nat.zero_le _, rfl, rfl⟩
  case round =>
    obtain ⟨k, hk, rfl, HS⟩ := hrel
    by_cases hlt : k < l.length
    · obtain ⟨b, o, rfl, _, _, hcell⟩ := hc (by omega)
      have hck := hcell k hlt
      have hltI : (k : Int) < (l.length : Int) := by omega
      have hn := l1NameOk_any l[k] w (hsz k hlt)
      clear hc hcell hsz
      cases hb : nameB l[k] with
      | true =>
        rw [hb] at hn
        have HN : Hid (allB (l.take (k + 1)) = true) := allB_snoc l k hlt HS.out hb
        go_wp2_with (go_at_call 31; refine hn.mono ?_; rintro e w' ⟨rfl, rfl⟩)
        go_round
        case rel => exact ⟨k + 1, by omega, by go_num, HN⟩
        case measure => simp [intOf]; omega
      | false =>
        rw [hb] at hn
        have HN : Hid (allB l = false) := allB_not l k hlt hb
        go_wp2_with (go_at_call 31; refine hn.mono ?_; rintro e w' ⟨rfl, rfl⟩)
        go_ret
        exact ⟨by rw [HN.out]; rfl, rfl⟩
    · have HN : Hid (allB l = true) := by
        have h := HS.out
        rw [List.take_of_length_le (by omega)] at h
        exact h
      go_wp2_with (go_at_call 23; refine (l1In_any _ _ _ _).mono ?_; rintro e w' ⟨rfl, rfl⟩)
      go_ret
      exact ⟨by rw [HN.out]; rfl, rfl⟩


set_option maxHeartbeats 1000000 in
theorem isPath_any (l : List ByteArray) (pa : Option Addr) (pc : Nat) (w : World) (lo hi : Nat) (hv : StrsAt w lo hi (.slice pa l.length pc) l) :
    Calls Tryd.prog 24 #[.slice pa l.length pc] w fun e w' => e = .returned (.bool (allB l && decide ((l.length : Int) ≤ 4))) ∧ w' = w := by
  obtain ⟨a, cap, he, hml, hsz, hc⟩ := hv
  simp only [Value.slice.injEq, true_and] at he
  obtain ⟨rfl, rfl⟩ := he
  unfold maxLen at hml
  by_cases h4 : (4 : Int) < (l.length : Int)
  · go_enter Tryd.func24, Tryd.ntmps24
    go_wp2_with fail
    go_ret
    exact ⟨by rw [decide_eq_false (by omega : ¬ (l.length : Int) ≤ 4), Bool.and_false]; rfl, rfl⟩
  go_enter Tryd.func24, Tryd.ntmps24
  go_wp2_with fail
  go_loop [10] (fun i => ∃ (k : Nat), k ≤ l.length ∧ i = .int .i64 k ∧ Hid (allB (l.take k) = true)) (fun i => l.length - (intOf i).toNat)
  case atStart => exact ⟨0, Nat.zero_le _, rfl, rfl⟩
  case round =>
    obtain ⟨k, hk, rfl, HS⟩ := hrel
    by_cases hlt : k < l.length
    · obtain ⟨b, o, rfl, _, _, hcell⟩ := hc (by omega)
      have hck := hcell k hlt
      have hltI : (k : Int) < (l.length : Int) := by omega
      have hn := isName_any l[k] w (hsz k hlt)
      clear hc hcell hsz
      cases hb : nameB l[k] with
      | true =>
        rw [hb] at hn
        have HN : Hid (allB (l.take (k + 1)) = true) := allB_snoc l k hlt HS.out hb
        go_wp2_with (go_at_call 32; refine hn.mono ?_; rintro e w' ⟨rfl, rfl⟩)
        go_round
        case rel => exact ⟨k + 1, by omega, by go_num, HN⟩
        case measure => simp [intOf]; omega
      | false =>
        rw [hb] at hn
        have HN : Hid (allB l = false) := allB_not l k hlt hb
        go_wp2_with (go_at_call 32; refine hn.mono ?_; rintro e w' ⟨rfl, rfl⟩)
        go_ret
        exact ⟨by rw [HN.out]; rfl, rfl⟩
    · have HN : Hid (allB l = true) := by
        have h := HS.out
        rw [List.take_of_length_le (by omega)] at h
        exact h
      go_wp2_with fail
      go_ret
      exact ⟨by rw [HN.out]; rfl, rfl⟩

end Go.Proofs.YtigammadhpgahaaDoor
