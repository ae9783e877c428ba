/- readNumber, readMode: numbers out of texts, just as they are written. -/
import Derived.Lib.AppendIntMem
import Derived.Lib.AtoiAllCases
import Derived.Test.YtkidfflmbfnogaaDoorLow
import Derived.Test.YtkidfflmbfnogaaDoorShelf
namespace Go.Proofs.YtkidfflmbfnogaaDoor
open Go.RowKit

/-- What the library's tables and errors read as, here and wherever no block below B has turned. -/
def Env (B : Nat) (w : World) : Prop := ∀ W, Below B w W → Lib.TabIs Tryd.prog W "internal/strconv.uint64pow10" .u64 Lib.pow10Tab ∧ (∃ tp p, W.var? Tryd.prog "strconv.ErrSyntax" = some #[.iface tp p]) ∧ (∃ tp p, W.var? Tryd.prog "strconv.ErrRange" = some #[.iface tp p])
theorem Env.keep {B : Nat} {w w' : World} (h : Env B w) (hb : Below B w w') : Env B w' := fun W hW => h W (hb.trans hW)
/-- The number that a text is, if it is written as that number is. -/
def numV (s : ByteArray) : Option Int := match Lib.atoiAll s.data.toList with
  | .ok v => if Lib.itoa v = s.data.toList then some v else none
  | _ => none

set_option maxRecDepth 100000 in
set_option maxHeartbeats 1000000 in
theorem readNumber_any (B : Nat) (s : ByteArray) (w : World) (hs : s.size ≤ 1048576) (hE : Env B w) (hB : B ≤ w.heap.size) :
    Calls Tryd.prog 38 #[.string s] w fun e w' => e = .returned (.tuple #[.int .i64 ((numV s).getD 0), .bool (numV s).isSome]) ∧ Below w.heap.size w w' := by
  obtain ⟨_, ⟨t1, p1, hv1⟩, ⟨t2, p2, hv2⟩⟩ := hE w (Below.refl _ _)
  have HE := hide hE
  clear hE
  cases ha : Lib.atoiAll s.data.toList with
  | ok v =>
    have hbd := Lib.atoiAll_bounds ha
    have HA := hide (Tryd.strconv_Atoi_ok s (by omega) v ha w)
    have HI : Hid (∀ W, Below w.heap.size w W → Calls Tryd.prog 49 #[.int .i64 v] W fun e w' => e = .returned (.string ⟨(Lib.itoa v).toArray⟩) ∧ Below W.heap.size W w') := fun W hW =>
      (Tryd.strconv_Itoa v hbd.1 hbd.2 W (HE.out W (hW.mono hB)).1).mono fun e w' ⟨h1, k, os, h2⟩ => ⟨h1, by rw [h2]; exact Lib.below_grow _ _ (Nat.le_refl _) _ _⟩
    by_cases he : Lib.itoa v = s.data.toList
    · have HV : Hid (numV s = some v) := by show _ = _; unfold numV; rw [ha]; simp only [he, if_true]
      have hst : (⟨(Lib.itoa v).toArray⟩ : ByteArray) = s := by rw [he]
      rw [hst] at HI
      clear hst he ha hv1 hv2
      go_enter Tryd.func38, Tryd.ntmps38
      go_wp2_with (first
        | (go_at_call 48; refine HA.out.mono ?_; rintro e w1 ⟨rfl, hw⟩; have HB1 : Hid (Below w.heap.size w w1) := (by rcases hw with rfl | ⟨t, rfl⟩; exact Below.refl _ _; exact Lib.bytesWorld_below _ _ _); clear hw)
        | (go_at_call 49; refine (HI.out _ HB1.out).mono ?_; rintro e w2 ⟨rfl, hB2⟩; have HB2 := hide hB2; clear hB2))
      go_ret2
      exact ⟨by rw [HV.out]; rfl, HB1.out.trans (HB2.out.mono HB1.out.size)⟩
    · have HV : Hid (numV s = none) := by show _ = _; unfold numV; rw [ha]; simp only [he, if_false]
      have hne : ((⟨(Lib.itoa v).toArray⟩ : ByteArray).toList == s.toList) = false := by
        rw [beq_eq_false_iff_ne]
        intro e
        rw [Lib.toList_data, Lib.toList_data] at e
        exact he (by simpa using e)
      generalize (⟨(Lib.itoa v).toArray⟩ : ByteArray) = q at *
      clear he ha hv1 hv2
      go_enter Tryd.func38, Tryd.ntmps38
      go_wp2_with (first
        | (go_at_call 48; refine HA.out.mono ?_; rintro e w1 ⟨rfl, hw⟩; have HB1 : Hid (Below w.heap.size w w1) := (by rcases hw with rfl | ⟨t, rfl⟩; exact Below.refl _ _; exact Lib.bytesWorld_below _ _ _); clear hw)
        | (go_at_call 49; refine (HI.out _ HB1.out).mono ?_; rintro e w2 ⟨rfl, hB2⟩; have HB2 := hide hB2; clear hB2))
      go_ret2
      exact ⟨by rw [HV.out]; rfl, HB1.out.trans (HB2.out.mono HB1.out.size)⟩
  | «syntax» =>
    have HV : Hid (numV s = none) := by show _ = _; unfold numV; rw [ha]
    have HA := hide (Tryd.strconv_Atoi_syntax_var s (by omega) ha t1 p1 w hv1)
    clear ha hv1 hv2
    go_enter Tryd.func38, Tryd.ntmps38
    go_wp2_with (go_at_call 48; refine HA.out.mono ?_; rintro e w1 ⟨N, rfl, _, _, hB1⟩; have HB1 := hide hB1; clear hB1)
    go_ret2
    exact ⟨by rw [HV.out]; rfl, HB1.out⟩
  | range =>
    have HV : Hid (numV s = none) := by show _ = _; unfold numV; rw [ha]
    have HA := hide (Tryd.strconv_Atoi_range_var s (by omega) ha t2 p2 w hv2)
    clear ha hv1 hv2
    go_enter Tryd.func38, Tryd.ntmps38
    go_wp2_with (go_at_call 48; refine HA.out.mono ?_; rintro e w1 ⟨N, rfl, _, _, hB1⟩; have HB1 := hide hB1; clear hB1)
    go_ret2
    exact ⟨by rw [HV.out]; rfl, HB1.out⟩

/-- A text that is a mode. -/
def modeB (s : ByteArray) : Bool := match numV s with
  | some v => decide (0 ≤ v) && decide (v ≤ 7)
  | none => false
theorem isMode_at (v : Int) (w : World) : Calls Tryd.prog 39 #[.int .i64 v] w fun e w' => e = .returned (.bool (decide (0 ≤ v) && decide (v ≤ 7))) ∧ w = w' := by
  have hc : ¬ (0 ≤ v) ∨ (0 ≤ v ∧ ¬ v ≤ 7) ∨ (0 ≤ v ∧ v ≤ 7) := by omega
  rcases hc with c1 | ⟨c1, c2⟩ | ⟨c1, c2⟩
  all_goals
    go_enter Tryd.func39, Tryd.ntmps39
    go_wp2
    go_ret
    exact ⟨congrArg (fun b => Ending.returned (.bool b)) (by rw [Bool.eq_iff_iff]; simp; try omega), rfl⟩
set_option maxHeartbeats 1000000 in
theorem readMode_any (B : Nat) (s : ByteArray) (w : World) (hs : s.size ≤ 1048576) (hE : Env B w) (hB : B ≤ w.heap.size) :
    Calls Tryd.prog 25 #[.string s] w fun e w' => e = .returned (.tuple #[.int .i64 ((numV s).getD 0), .bool (modeB s)]) ∧ Below w.heap.size w w' := by
  have HN := hide (readNumber_any B s w hs hE hB)
  clear hE
  cases hv : numV s with
  | none =>
    rw [hv] at HN
    have HM : Hid (modeB s = false) := by show _ = _; unfold modeB; rw [hv]
    go_enter Tryd.func25, Tryd.ntmps25
    go_wp2_with (go_at_call 38; refine HN.out.mono ?_; rintro e w1 ⟨rfl, hB1⟩; have HB1 := hide hB1; clear hB1)
    go_ret2
    exact ⟨by rw [HM.out]; rfl, HB1.out⟩
  | some v =>
    rw [hv] at HN
    have HM : Hid (modeB s = (decide (0 ≤ v) && decide (v ≤ 7))) := by show _ = _; unfold modeB; rw [hv]
    have HI := hide (isMode_at v)
    generalize (decide (0 ≤ v) && decide (v ≤ 7)) = ok at *
    go_enter Tryd.func25, Tryd.ntmps25
    go_wp2_with (first
      | (go_at_call 38; refine HN.out.mono ?_; rintro e w1 ⟨rfl, hB1⟩; have HB1 := hide hB1; clear hB1)
      | (go_at_call 39; refine (HI.out _).mono ?_; rintro e w2 ⟨rfl, rfl⟩))
    go_ret2
    exact ⟨by rw [HM.out]; rfl, HB1.out⟩

end Go.Proofs.YtkidfflmbfnogaaDoor
