/- The law FnExactLayerWrite: it returns true, whatever it is called with. -/
import Derived.Test.YtgbdhmaacfmimaaDoorLayW
import Derived.Test.YtgbdhmaacfmimaaDoorToE
namespace Go.Proofs.YtgbdhmaacfmimaaDoor
open Go.RowKit

theorem szE_len (e : Ent) (L : Int) (h : 0 ≤ szE e L) : (e.path.length : Int) ≤ L := by
  unfold szE at h
  split at h
  · omega
  · rename_i hn
    rw [szStrs] at hn
    split at hn
    · omega
    · omega
theorem szKidsLoop_each : ∀ (l : List Ent) (L : Int), 0 ≤ L → 0 ≤ szKidsLoop szE l L → ∀ (i : Nat) (h : i < l.length), (l[i].path.length : Int) ≤ L
  | [], _, _, _, i, h => by simp at h
  | e :: r, L, h0, hz, i, h => by
    rw [szKidsLoop] at hz
    split at hz
    · omega
    · rename_i hn
      have h1 := szE_len e L (by omega)
      have h2 := szE_le e L h0
      match i, h with
      | 0, _ => exact h1
      | i + 1, h =>
        have := szKidsLoop_each r (szE e L) (by omega) hz i (by simpa using h)
        simp only [List.getElem_cons_succ]
        omega
theorem szKids_small (l : List Ent) (h : 0 ≤ szKids szE l 1048576) : l.length ≤ 1048576 ∧ ∀ (i : Nat) (h : i < l.length), l[i].path.length ≤ 1048576 := by
  rw [szKids] at h
  split at h
  · omega
  · refine ⟨by omega, fun i hi => ?_⟩
    have := szKidsLoop_each l (1048576 - l.length) (by omega) h i hi
    omega

set_option maxHeartbeats 2000000 in
theorem layerWriteLaw_any (l : List Ent) (v : Value) (w : World) (lo hi : Nat) (hv : EntsAt w lo hi v l) (hhi : hi ≤ w.heap.size) (hF : FormsAt w) :
    Calls Tryd.prog 3 #[v] w fun e w' => e = .returned (.bool true) ∧ Below w.heap.size w w' := by
  have HV : Hid (EntsAt w lo hi v l) := hv
  have HF : Hid (FormsAt w) := hF
  obtain ⟨a, cap, rfl, _, _⟩ := hv
  clear hF
  have HSz := hidB (szEntryS_any l (.slice a l.length cap) 1048576 w lo hi HV.out hhi (by omega) (by omega))
  by_cases hz : szKids szE l 1048576 < 0
  · go_enter Tryd.func3, Tryd.ntmps3
    go_wp2_with (go_at_call 4; refine HSz.out.mono ?_; rintro e w1 ⟨rfl, hB1⟩; have HB1 := hidB hB1; clear hB1)
    go_ret
    exact ⟨rfl, HB1.out⟩
  · obtain ⟨hl, hsm⟩ := szKids_small l (by omega)
    have HTo : Hid (∀ W, Below w.heap.size w W → Calls Tryd.prog 6 #[.slice a l.length cap] W fun e w' => ∃ a, e = .returned (.slice a l.length l.length) ∧ EntsAt w' W.heap.size w'.heap.size (.slice a l.length l.length) l ∧ Below W.heap.size W w') := fun W hb =>
      toEntryS_any l _ W lo hi (HV.out.keep hb hhi) (Nat.le_trans hhi hb.size) hl hsm
    have HSp : Hid (∀ W lo1 v', EntsAt W lo1 W.heap.size v' l → Calls Tryd.prog 5 #[v'] W fun e w' => e = .returned (.string (layV l)) ∧ Below W.heap.size W w') := fun W lo1 v' h => specLW_any l v' W _ _ h (Nat.le_refl _) hl
    have HIm : Hid (∀ W lo1 v', Below w.heap.size w W → EntsAt W lo1 W.heap.size v' l → Calls Tryd.prog 7 #[v'] W fun e w' => e = .returned (.string (layV l)) ∧ Below W.heap.size W w') := fun W lo1 v' hb h => layerWrite_any l v' W _ _ h (Nat.le_refl _) (HF.out.keep hb) hl
    clear hsm
    generalize layV l = tt at HSp HIm
    go_enter Tryd.func3, Tryd.ntmps3
    go_wp2_with (go_at_call 4; refine HSz.out.mono ?_; rintro e w1 ⟨rfl, hB1⟩; have HB1 := hidB hB1; clear hB1)
    refine (HTo.out w1 HB1.out).mono ?_
    rintro e w2 ⟨a2, rfl, hE2, hB2⟩
    have HE2 := hidB hE2
    have HB2 : Hid (Below w.heap.size w w2) := HB1.out.trans (hB2.mono HB1.out.size)
    clear hE2 hB2
    go_wp2_with fail
    refine (HSp.out w2 _ _ HE2.out).mono ?_
    rintro e w3 ⟨rfl, hB3⟩
    have HB3 : Hid (Below w.heap.size w w3) := HB2.out.trans (hB3.mono HB2.out.size)
    clear hB3 HE2
    go_wp2_with fail
    refine (HTo.out w3 HB3.out).mono ?_
    rintro e w4 ⟨a4, rfl, hE4, hB4⟩
    have HE4 := hidB hE4
    have HB4 : Hid (Below w.heap.size w w4) := HB3.out.trans (hB4.mono HB3.out.size)
    clear hE4 hB4
    go_wp2_with fail
    refine (HIm.out w4 _ _ HB4.out HE4.out).mono ?_
    rintro e w5 ⟨rfl, hB5⟩
    have HB5 : Hid (Below w.heap.size w w5) := HB4.out.trans (hB5.mono HB4.out.size)
    have HE5 : Hid (EntsAt w5 w3.heap.size w4.heap.size (.slice a4 l.length l.length) l ∧ w4.heap.size ≤ w5.heap.size) := ⟨HE4.out.keep hB5 (Nat.le_refl _), hB5.size⟩
    clear hB5 HE4
    go_wp2_with fail
    refine (HTo.out w5 HB5.out).mono ?_
    rintro e w6 ⟨a6, rfl, hE6, hB6⟩
    have HE6 := hidB hE6
    have HB6 : Hid (Below w.heap.size w w6) := HB5.out.trans (hB6.mono HB5.out.size)
    have HE7 : Hid (EntsAt w6 w3.heap.size w4.heap.size (.slice a4 l.length l.length) l ∧ w4.heap.size ≤ w6.heap.size) := ⟨HE5.out.1.keep hB6 HE5.out.2, Nat.le_trans HE5.out.2 hB6.size⟩
    clear hE6 hB6
    go_wp2_with fail
    refine (eqEntryS_any l _ _ w6 _ _ _ _ HE7.out.1 HE6.out HE7.out.2 (Nat.le_refl _)).mono ?_
    rintro e w7 ⟨rfl, hB7⟩
    have HB7 : Hid (Below w.heap.size w w7) := HB6.out.trans (hB7.mono HB6.out.size)
    clear hB7
    go_wp2_with fail
    go_ret
    exact ⟨rfl, HB7.out⟩

end Go.Proofs.YtgbdhmaacfmimaaDoor
