/- The small functions of the specification and of the program: numbers and names, each walked. -/
import Derived.Test.YtblcmnlbapbebaaDoorProg
import Derived.WalkKit
import Derived.WalkSpells
import Derived.WalkLawsBesides
namespace Go.Proofs.YtblcmnlbapbebaaDoor
open Go.RowKit

set_option maxHeartbeats 400000 in
theorem l1In_any (n lo hi : Int) (w : World) :
    Calls Tryd.prog 24 #[.int .i64 n, .int .i64 lo, .int .i64 hi] w fun e w' => e = .returned (.bool (decide (lo ≤ n) && decide (n ≤ hi))) ∧ w' = w := by
  by_cases h : lo ≤ n
  · go_enter Tryd.func24, Tryd.ntmps24
    go_wp2
    go_ret
    exact ⟨by simp [h], rfl⟩
  · go_enter Tryd.func24, Tryd.ntmps24
    go_wp2
    go_ret
    exact ⟨by simp; omega, rfl⟩



def okByte (c : UInt8) : Bool := (decide (97 ≤ (c.toNat : Int)) && decide ((c.toNat : Int) ≤ 122)) || (decide (48 ≤ (c.toNat : Int)) && decide ((c.toNat : Int) ≤ 57))
/-- A name: 1 to 5 bytes, each a letter or a figure. -/
def nameB (s : ByteArray) : Bool := s.data.toList.all okByte && (decide (1 ≤ (s.size : Int)) && decide ((s.size : Int) ≤ 5))

theorem take_snoc (s : ByteArray) (k : Nat) (h : k < s.size) : s.data.toList.take (k + 1) = s.data.toList.take k ++ [s[k]] := by
  rw [List.take_succ_eq_append_getElem (by simpa using h)]; rfl

theorem all_snoc (s : ByteArray) (k : Nat) (h : k < s.size) (p : UInt8 → Bool) (ha : (s.data.toList.take k).all p = true) (hp : p s[k] = true) : (s.data.toList.take (k + 1)).all p = true := by
  rw [take_snoc s k h, List.all_append, ha, List.all_cons, hp]; rfl

theorem all_not (s : ByteArray) (k : Nat) (h : k < s.size) (p : UInt8 → Bool) (hp : p s[k] = false) : s.data.toList.all p = false := by
  rw [List.all_eq_false]
  refine ⟨s[k], ?_, by simp [hp]⟩
  exact List.getElem_mem (l := s.data.toList) (by simpa using h)

theorem all_whole (s : ByteArray) (k : Nat) (h : ¬ k < s.size) (p : UInt8 → Bool) (ha : (s.data.toList.take k).all p = true) : s.data.toList.all p = true := by
  rwa [List.take_of_length_le (by simp; omega)] at ha

theorem nameB_no (s : ByteArray) (k : Nat) (h : k < s.size) (hp : okByte s[k] = false) : nameB s = false := by
  rw [nameB, all_not s k h okByte hp]; rfl

set_option maxHeartbeats 1000000 in
theorem l1NameOk_any (s : ByteArray) (w : World) (hs : s.size ≤ maxLen) :
    Calls Tryd.prog 23 #[.string s] w fun e w' => e = .returned (.bool (nameB s)) ∧ w' = w := by
  unfold maxLen at hs
  go_enter Tryd.func23, Tryd.ntmps23
  go_wp2
  go_loop [3] (fun i => ∃ k : Nat, k ≤ s.size ∧ i = .int .i64 k ∧ (s.data.toList.take k).all okByte = true) (fun i => s.size - (intOf i).toNat)
  case atStart => exact ⟨0, Nat.zero_le _, rfl, rfl⟩
  case round =>
    obtain ⟨k, hk, rfl, hall⟩ := hrel
    have HA : Hid ((s.data.toList.take k).all okByte = true) := hall
    clear hall
    by_cases hlt : k < s.size
    · have hcs : (97 ≤ (s[k].toNat : Int) ∧ (s[k].toNat : Int) ≤ 122) ∨ (97 ≤ (s[k].toNat : Int) ∧ 122 < (s[k].toNat : Int)) ∨ ((s[k].toNat : Int) < 97 ∧ 48 ≤ (s[k].toNat : Int) ∧ (s[k].toNat : Int) ≤ 57) ∨ ((s[k].toNat : Int) < 97 ∧ 48 ≤ (s[k].toNat : Int) ∧ 57 < (s[k].toNat : Int)) ∨ ((s[k].toNat : Int) < 97 ∧ (s[k].toNat : Int) < 48) := by omega
      rcases hcs with ⟨h1, h2⟩ | ⟨h1, h2⟩ | ⟨h1, h2, h3⟩ | ⟨h1, h2, h3⟩ | ⟨h1, h2⟩
      · have HB : Hid (okByte s[k] = true) := by show _ = _; simp [okByte]; omega
        have hd0 : decide (97 ≤ (s[k].toNat : Int)) = true := by simp; omega
        have hd1 : decide ((s[k].toNat : Int) ≤ 122) = true := by simp; omega
        go_wp2
        go_round
        case rel => exact ⟨k + 1, by omega, by go_num, all_snoc s k hlt _ HA.out HB.out⟩
        case measure => simp [intOf]; omega
      · have HB : Hid (okByte s[k] = false) := by show _ = _; simp [okByte]; omega
        have hd0 : decide (97 ≤ (s[k].toNat : Int)) = true := by simp; omega
        have hd1 : decide ((s[k].toNat : Int) ≤ 122) = false := by simp; omega
        have hd2 : decide (48 ≤ (s[k].toNat : Int)) = true := by simp; omega
        have hd3 : decide ((s[k].toNat : Int) ≤ 57) = false := by simp; omega
        go_wp2
        go_ret
        refine ⟨?_, rfl⟩
        rw [nameB_no s k hlt HB.out]; rfl
      · have HB : Hid (okByte s[k] = true) := by show _ = _; simp [okByte]; omega
        have hd0 : decide (97 ≤ (s[k].toNat : Int)) = false := by simp; omega
        have hd2 : decide (48 ≤ (s[k].toNat : Int)) = true := by simp; omega
        have hd3 : decide ((s[k].toNat : Int) ≤ 57) = true := by simp; omega
        go_wp2
        go_round
        case rel => exact ⟨k + 1, by omega, by go_num, all_snoc s k hlt _ HA.out HB.out⟩
        case measure => simp [intOf]; omega
      · have HB : Hid (okByte s[k] = false) := by show _ = _; simp [okByte]; omega
        have hd0 : decide (97 ≤ (s[k].toNat : Int)) = false := by simp; omega
        have hd2 : decide (48 ≤ (s[k].toNat : Int)) = true := by simp; omega
        have hd3 : decide ((s[k].toNat : Int) ≤ 57) = false := by simp; omega
        go_wp2
        go_ret
        refine ⟨?_, rfl⟩
        rw [nameB_no s k hlt HB.out]; rfl
      · have HB : Hid (okByte s[k] = false) := by show _ = _; simp [okByte]; omega
        have hd0 : decide (97 ≤ (s[k].toNat : Int)) = false := by simp; omega
        have hd2 : decide (48 ≤ (s[k].toNat : Int)) = false := by simp; omega
        go_wp2
        go_ret
        refine ⟨?_, rfl⟩
        rw [nameB_no s k hlt HB.out]; rfl
    · go_wp2_with (go_at_call 24; refine (l1In_any _ _ _ _).mono ?_; rintro e w' ⟨rfl, rfl⟩)
      go_ret
      exact ⟨by rw [nameB, all_whole s k hlt _ HA.out]; simp, rfl⟩


set_option maxHeartbeats 1000000 in
theorem isName_any (s : ByteArray) (w : World) (hs : s.size ≤ maxLen) :
    Calls Tryd.prog 40 #[.string s] w fun e w' => e = .returned (.bool (nameB s)) ∧ w' = w := by
  unfold maxLen at hs
  by_cases h1 : (s.size : Int) < 1
  · go_enter Tryd.func40, Tryd.ntmps40
    go_wp2
    go_ret
    exact ⟨by rw [nameB]; simp; omega, rfl⟩
  · by_cases h5 : 5 < (s.size : Int)
    · have hd1 : decide ((s.size : Int) < 1) = false := by simp; omega
      go_enter Tryd.func40, Tryd.ntmps40
      go_wp2
      go_ret
      exact ⟨by rw [nameB]; simp; omega, rfl⟩
    · have hd1 : decide ((s.size : Int) < 1) = false := by simp; omega
      have hd5 : decide (5 < (s.size : Int)) = false := by simp; omega
      go_enter Tryd.func40, Tryd.ntmps40
      go_wp2
      go_loop [16] (fun i => ∃ k : Nat, k ≤ s.size ∧ i = .int .i64 k ∧ (s.data.toList.take k).all okByte = true) (fun i => s.size - (intOf i).toNat)
      case atStart => exact ⟨0, Nat.zero_le _, rfl, rfl⟩
      case round =>
        obtain ⟨k, hk, rfl, hall⟩ := hrel
        have HA : Hid ((s.data.toList.take k).all okByte = true) := hall
        clear hall
        by_cases hlt : k < s.size
        · have hcs : (97 ≤ (s[k].toNat : Int) ∧ (s[k].toNat : Int) ≤ 122) ∨ (97 ≤ (s[k].toNat : Int) ∧ 122 < (s[k].toNat : Int)) ∨ ((s[k].toNat : Int) < 97 ∧ 48 ≤ (s[k].toNat : Int) ∧ (s[k].toNat : Int) ≤ 57) ∨ ((s[k].toNat : Int) < 97 ∧ 48 ≤ (s[k].toNat : Int) ∧ 57 < (s[k].toNat : Int)) ∨ ((s[k].toNat : Int) < 97 ∧ (s[k].toNat : Int) < 48) := by omega
          rcases hcs with ⟨h1, h2⟩ | ⟨h1, h2⟩ | ⟨h1, h2, h3⟩ | ⟨h1, h2, h3⟩ | ⟨h1, h2⟩
          · have HB : Hid (okByte s[k] = true) := by show _ = _; simp [okByte]; omega
            have hd0 : decide (97 ≤ (s[k].toNat : Int)) = true := by simp; omega
            have hd1 : decide ((s[k].toNat : Int) ≤ 122) = true := by simp; omega
            have hd2 : decide (48 ≤ (s[k].toNat : Int)) = true := by simp; omega
            have hd3 : decide ((s[k].toNat : Int) ≤ 57) = false := by simp; omega
            go_wp2
            go_round
            case rel => exact ⟨k + 1, by omega, by go_num, all_snoc s k hlt _ HA.out HB.out⟩
            case measure => simp [intOf]; omega
          · have HB : Hid (okByte s[k] = false) := by show _ = _; simp [okByte]; omega
            have hd0 : decide (97 ≤ (s[k].toNat : Int)) = true := by simp; omega
            have hd1 : decide ((s[k].toNat : Int) ≤ 122) = false := by simp; omega
            have hd2 : decide (48 ≤ (s[k].toNat : Int)) = true := by simp; omega
            have hd3 : decide ((s[k].toNat : Int) ≤ 57) = false := by simp; omega
            go_wp2
            go_ret
            refine ⟨?_, rfl⟩
            rw [nameB_no s k hlt HB.out]; rfl
          · have HB : Hid (okByte s[k] = true) := by show _ = _; simp [okByte]; omega
            have hd0 : decide (97 ≤ (s[k].toNat : Int)) = false := by simp; omega
            have hd2 : decide (48 ≤ (s[k].toNat : Int)) = true := by simp; omega
            have hd3 : decide ((s[k].toNat : Int) ≤ 57) = true := by simp; omega
            go_wp2
            go_round
            case rel => exact ⟨k + 1, by omega, by go_num, all_snoc s k hlt _ HA.out HB.out⟩
            case measure => simp [intOf]; omega
          · have HB : Hid (okByte s[k] = false) := by show _ = _; simp [okByte]; omega
            have hd0 : decide (97 ≤ (s[k].toNat : Int)) = false := by simp; omega
            have hd2 : decide (48 ≤ (s[k].toNat : Int)) = true := by simp; omega
            have hd3 : decide ((s[k].toNat : Int) ≤ 57) = false := by simp; omega
            go_wp2
            go_ret
            refine ⟨?_, rfl⟩
            rw [nameB_no s k hlt HB.out]; rfl
          · have HB : Hid (okByte s[k] = false) := by show _ = _; simp [okByte]; omega
            have hd0 : decide (97 ≤ (s[k].toNat : Int)) = false := by simp; omega
            have hd2 : decide (48 ≤ (s[k].toNat : Int)) = false := by simp; omega
            go_wp2
            go_ret
            refine ⟨?_, rfl⟩
            rw [nameB_no s k hlt HB.out]; rfl
        · go_wp2
          go_ret
          refine ⟨?_, rfl⟩
          rw [nameB, all_whole s k hlt _ HA.out]
          simp
          omega

end Go.Proofs.YtblcmnlbapbebaaDoor
