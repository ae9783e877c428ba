/- spec.l3Mode, and that it tells a mode just where readMode does. -/
import Derived.Test.YtkidfflmbfnogaaDoorRdN
import Derived.Test.YtkidfflmbfnogaaDoorCut
namespace Go.Proofs.YtkidfflmbfnogaaDoor
open Go.RowKit

/-- The mode that a text is, or none: -1. -/
def modeS (s : ByteArray) : Int := match s.data.toList with
  | [c] => if 48 ≤ c.toNat ∧ c.toNat ≤ 55 then (c.toNat : Int) - 48 else -1
  | _ => -1
theorem fig_one : ∀ d : Fin 8, Lib.atoiAll [UInt8.ofNat (48 + d.val)] = .ok (d.val : Int) ∧ Lib.itoa (d.val : Int) = [UInt8.ofNat (48 + d.val)] := by decide +kernel
theorem modeS_list {s : ByteArray} (h : 0 ≤ modeS s) : ∃ d : Fin 8, s.data.toList = [UInt8.ofNat (48 + d.val)] ∧ modeS s = d.val := by
  unfold modeS at h ⊢
  match hl : s.data.toList with
  | [] => rw [hl] at h; simp at h
  | a :: b :: r => rw [hl] at h; simp at h
  | [c] =>
    rw [hl] at h
    simp only at h ⊢
    split at h
    · rename_i hc
      refine ⟨⟨c.toNat - 48, by omega⟩, ?_, ?_⟩
      · have : 48 + (c.toNat - 48) = c.toNat := by omega
        simp only [this, UInt8.ofNat_toNat]
      · rw [if_pos hc]; simp only; omega
    · omega
theorem mode_same (s : ByteArray) : (modeB s = decide (0 ≤ modeS s)) ∧ (modeB s = true → numV s = some (modeS s)) := by
  by_cases h : 0 ≤ modeS s
  · obtain ⟨d, h1, h2⟩ := modeS_list h
    obtain ⟨f1, f2⟩ := fig_one d
    have hn : numV s = some (d.val : Int) := by
      unfold numV
      rw [h1, f1]
      simp only [f2, if_true]
    have hm : modeB s = true := by
      unfold modeB
      rw [hn]
      have := d.isLt
      simp
      omega
    exact ⟨by rw [hm]; simp [h], fun _ => by rw [hn, h2]⟩
  · have hm : modeB s = false := by
      cases hb : modeB s with
      | false => rfl
      | true =>
        exfalso
        apply h
        unfold modeB at hb
        cases hn : numV s with
        | none => rw [hn] at hb; cases hb
        | some v =>
          rw [hn] at hb
          simp only [Bool.and_eq_true, decide_eq_true_eq] at hb
          unfold numV at hn
          cases ha : Lib.atoiAll s.data.toList with
          | ok u =>
            rw [ha] at hn
            simp only at hn
            split at hn
            · rename_i hi
              cases hn
              have f := (fig_one ⟨v.toNat, by omega⟩).2
              have e : ((v.toNat : Nat) : Int) = v := by omega
              simp only [e] at f
              rw [f] at hi
              unfold modeS
              rw [← hi]
              have e2 : (UInt8.ofNat (48 + v.toNat)).toNat = 48 + v.toNat := by rw [UInt8.toNat_ofNat']; omega
              simp only [e2]
              rw [if_pos (by omega)]
              omega
            · cases hn
          | «syntax» => rw [ha] at hn; cases hn
          | range => rw [ha] at hn; cases hn
    exact ⟨by rw [hm]; simp [h], fun e => by rw [hm] at e; cases e⟩

set_option maxHeartbeats 1000000 in
theorem l3Mode_any (s : ByteArray) (w : World) : Calls Tryd.prog 17 #[.string s] w fun e w' => e = .returned (.int .i64 (modeS s)) ∧ w' = w := by
  by_cases h1 : s.size = 1
  · have hlt : 0 < s.size := by omega
    have hl : s.data.toList = [s[0]] := by
      have h2 : s.data.toList.length = 1 := by simpa using h1
      match hq : s.data.toList, h2 with
      | [c], _ =>
        have : s[0] = s.data.toList[0]'(by rw [hq]; simp) := rfl
        rw [this]
        simp [hq]
    have HM : Hid (modeS s = if 48 ≤ s[0].toNat ∧ s[0].toNat ≤ 55 then (s[0].toNat : Int) - 48 else -1) := by show _ = _; unfold modeS; rw [hl]
    have g1 : ((s.size : Int) != 1) = false := by simp; omega
    have g2 : (0 : Int) < (s.size : Int) := by omega
    have hb := s[0].toNat_lt
    generalize hc : s[0] = c at *
    clear hl
    have hcs : (c.toNat : Int) < 48 ∨ (¬ (c.toNat : Int) < 48 ∧ 55 < (c.toNat : Int)) ∨ (¬ (c.toNat : Int) < 48 ∧ ¬ 55 < (c.toNat : Int)) := by omega
    rcases hcs with c1 | ⟨c1, c2⟩ | ⟨c1, c2⟩
    · have HV : Hid (modeS s = -1) := by show _ = _; rw [HM.out, if_neg (by omega)]
      go_enter Tryd.func17, Tryd.ntmps17
      go_wp2
      go_ret
      exact ⟨by rw [HV.out]; rfl, rfl⟩
    · have HV : Hid (modeS s = -1) := by show _ = _; rw [HM.out, if_neg (by omega)]
      go_enter Tryd.func17, Tryd.ntmps17
      go_wp2
      go_ret
      exact ⟨by rw [HV.out]; rfl, rfl⟩
    · have HV : Hid (modeS s = (c.toNat : Int) - 48) := by show _ = _; rw [HM.out, if_pos (by omega)]
      have c3 : (48 : Int) ≤ (c.toNat : Int) := by omega
      have c4 : (c.toNat : Int) ≤ 55 := by omega
      go_enter Tryd.func17, Tryd.ntmps17
      go_wp2
      go_ret
      exact ⟨by rw [HV.out]; rfl, rfl⟩
  · have HV : Hid (modeS s = -1) := by
      show _ = _
      unfold modeS
      match hq : s.data.toList with
      | [] => rfl
      | [c] => exact absurd (by have := congrArg List.length hq; simpa using this) h1
      | a :: b :: r => rfl
    have g1 : ((s.size : Int) != 1) = true := by simp; omega
    go_enter Tryd.func17, Tryd.ntmps17
    go_wp2
    go_ret
    exact ⟨by rw [HV.out]; rfl, rfl⟩

end Go.Proofs.YtkidfflmbfnogaaDoor
