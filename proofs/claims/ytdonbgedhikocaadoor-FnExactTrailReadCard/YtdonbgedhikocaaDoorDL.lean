/- deeperOrLater: the order of the trail's queue. -/
import Derived.Test.YtdonbgedhikocaaDoorPth
import Derived.Test.YtdonbgedhikocaaDoorQt
namespace Go.Proofs.YtdonbgedhikocaaDoor
open Go.RowKit

def cmpI (x y : Int) : Int := if x < y then -1 else if y < x then 1 else 0
def orI (x y : Int) : Int := if x = 0 then y else x
/-- The first path has more names, or as many, and comes later. -/
def deepB (a b : List ByteArray) : Bool := decide (orI (cmpI b.length a.length) (cmpP b a) < 0)

set_option maxHeartbeats 400000 in
theorem cmpNaNI_any (x : Int) (w : World) : Calls Tryd.prog 55 #[.int .i64 x] w fun e w' => e = .returned (.bool false) ∧ w' = w := by
  go_enter Tryd.func55, Tryd.ntmps55
  go_wp2
  go_ret
  exact ⟨by simp, rfl⟩

set_option maxHeartbeats 400000 in
theorem cmpCompareI_any (x y : Int) (w : World) : Calls Tryd.prog 44 #[.int .i64 x, .int .i64 y] w fun e w' => e = .returned (.int .i64 (cmpI x y)) ∧ w' = w := by
  obtain ⟨r, hr⟩ : ∃ r, r = cmpI x y := ⟨_, rfl⟩
  rw [← hr]
  rw [cmpI] at hr
  have HR := hide hr
  clear hr
  rcases Int.lt_trichotomy x y with h | h | h
  · have hn : ¬ y < x := by omega
    have HV : Hid (r = -1) := by show _ = _; rw [HR.out, if_pos h]
    clear HR
    go_enter Tryd.func44, Tryd.ntmps44
    go_wp2_with (go_at_call 55; refine (cmpNaNI_any _ _).mono ?_; rintro e w ⟨rfl, rfl⟩)
    go_ret
    exact ⟨by rw [HV.out]; rfl, rfl⟩
  · subst h
    have HV : Hid (r = 0) := by show _ = _; rw [HR.out, if_neg (by omega), if_neg (by omega)]
    clear HR
    go_enter Tryd.func44, Tryd.ntmps44
    go_wp2_with (go_at_call 55; refine (cmpNaNI_any _ _).mono ?_; rintro e w ⟨rfl, rfl⟩)
    go_ret
    exact ⟨by rw [HV.out]; rfl, rfl⟩
  · have hn : ¬ x < y := by omega
    have HV : Hid (r = 1) := by show _ = _; rw [HR.out, if_neg hn, if_pos h]
    clear HR
    go_enter Tryd.func44, Tryd.ntmps44
    go_wp2_with (go_at_call 55; refine (cmpNaNI_any _ _).mono ?_; rintro e w ⟨rfl, rfl⟩)
    go_ret
    exact ⟨by rw [HV.out]; rfl, rfl⟩

set_option maxHeartbeats 1000000 in
theorem cmpOr_any (x y : Int) (b : Nat) (w : World) (h0 : w.cell? ⟨b, 0, none⟩ = some (.int .i64 x)) (h1 : w.cell? ⟨b, 1, none⟩ = some (.int .i64 y)) :
    Calls Tryd.prog 43 #[.slice (some ⟨b, 0, none⟩) 2 2] w fun e w' => e = .returned (.int .i64 (orI x y)) ∧ w' = w := by
  obtain ⟨r, hr⟩ : ∃ r, r = orI x y := ⟨_, rfl⟩
  rw [← hr]
  rw [orI] at hr
  have HR := hide hr
  clear hr
  go_enter Tryd.func43, Tryd.ntmps43
  go_wp2_with fail
  go_loop [8] (fun i => i = .int .i64 0 ∨ (i = .int .i64 1 ∧ Hid (x = 0)) ∨ (i = .int .i64 2 ∧ Hid (x = 0 ∧ y = 0))) (fun i => 2 - (intOf i).toNat)
  case atStart => exact .inl rfl
  case round =>
    rcases hrel with rfl | ⟨rfl, HX⟩ | ⟨rfl, HX⟩
    · by_cases hx : x = 0
      · have hb : (x != 0) = false := by simp [hx]
        have HX := hide hx
        clear hx
        go_wp2_with fail
        go_round
        case rel => exact .inr (.inl ⟨rfl, HX⟩)
        case measure => simp [intOf]
      · have hb : (x != 0) = true := by simp [hx]
        have HV : Hid (r = x) := by show _ = _; rw [HR.out, if_neg hx]
        clear hx
        go_wp2_with fail
        go_ret
        exact ⟨by rw [HV.out]; rfl, rfl⟩
    · by_cases hy : y = 0
      · have hb : (y != 0) = false := by simp [hy]
        have HY : Hid (x = 0 ∧ y = 0) := ⟨HX.out, hy⟩
        clear hy
        go_wp2_with fail
        go_round
        case rel => exact .inr (.inr ⟨rfl, HY⟩)
        case measure => simp [intOf]
      · have hb : (y != 0) = true := by simp [hy]
        have HV : Hid (r = y) := by show _ = _; rw [HR.out, if_pos HX.out]
        clear hy
        go_wp2_with fail
        go_ret
        exact ⟨by rw [HV.out]; rfl, rfl⟩
    · have HV : Hid (r = 0) := by show _ = _; rw [HR.out, if_pos HX.out.1]; exact HX.out.2
      go_wp2_with fail
      go_ret
      exact ⟨by rw [HV.out]; rfl, rfl⟩

set_option maxHeartbeats 1000000 in
theorem deeper_any (a b : List ByteArray) (va vb : Value) (w : World) (lo hi lo' hi' : Nat) (hv : StrsAt w lo hi va a) (hv' : StrsAt w lo' hi' vb b) :
    Calls Tryd.prog 33 #[va, vb] w fun e w' => e = .returned (.bool (deepB a b)) ∧ Below w.heap.size w w' := by
  have HC := hide (compare_any b a vb va w lo' hi' lo hi hv' hv)
  obtain ⟨aa, ca, rfl, hla, _⟩ := hv
  obtain ⟨ab, cb, rfl, hlb, _⟩ := hv'
  have HV : Hid (deepB a b = decide (orI (cmpI b.length a.length) (cmpP b a) < 0)) := rfl
  generalize deepB a b = res at HV ⊢
  generalize cmpP b a = c2 at HC HV
  have H1 := hide (cmpCompareI_any b.length a.length w)
  generalize cmpI b.length a.length = c1 at H1 HV
  have HO := hide (cmpOr_any c1 c2 w.heap.size (w.alloc (.cells #[.int .i64 c1, .int .i64 c2] 3)) ((Blk.new w _ _).cell 0 _ rfl) ((Blk.new w _ _).cell 1 _ rfl))
  generalize orI c1 c2 = c3 at HO HV
  unfold maxLen at hla hlb
  go_enter Tryd.func33, Tryd.ntmps33
  go_wp2_with fail
  refine H1.out.mono ?_
  rintro e w1 ⟨rfl, rfl⟩
  go_wp2_with fail
  refine HC.out.mono ?_
  rintro e w1 ⟨rfl, rfl⟩
  go_wp2_with fail
  refine HO.out.mono ?_
  rintro e w1 ⟨rfl, rfl⟩
  go_wp2_with fail
  go_ret
  exact ⟨by rw [HV.out]; rfl, (Below.refl _ _).alloc (Nat.le_refl _) _⟩

end Go.Proofs.YtdonbgedhikocaaDoor
