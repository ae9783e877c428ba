/- The law FnExactTrailShow: it returns true, whatever marks it is called with. -/
import Derived.Test.YtjnfdjoglmbnoaaShI
namespace Go.Proofs.Ytjnfdjoglmbnoaa
open Go.RowKit

set_option maxHeartbeats 4000000 in
set_option maxRecDepth 100000 in
theorem trailShowLaw_any (l : List Mk) (v : Value) (w : World) (lo hi : Nat) (hv : MksAt w lo hi v l) (hhi : hi ≤ w.heap.size) :
    Calls Try.prog 3 #[v] w fun e w' => e = .returned (.bool true) ∧ Below w.heap.size w w' := by
  have HSz : Hid (Calls Try.prog 4 #[v, .int .i64 1048576] w fun e w' => e = .returned (.int .i64 (szKids szM l 1048576)) ∧ Below w.heap.size w w') := szMarkS_any l v 1048576 w lo hi hv hhi (by omega) (by omega)
  have HTo : Hid (0 ≤ szKids szM l 1048576 → ∀ W, Below w.heap.size w W → Calls Try.prog 6 #[v] W fun e w' => ∃ a, e = .returned (.slice a l.length l.length) ∧ McsAt w' W.heap.size w'.heap.size (.slice a l.length l.length) l ∧ Below W.heap.size W w') := fun hz W hb =>
    toMarkS_any l v W lo hi (hv.keep hb hhi) (Nat.le_trans hhi hb.size) (szM_len hz).1 (szM_len hz).2
  have HSp : Hid (∀ W lo' a c, McsAt W lo' W.heap.size (.slice a l.length c) l → Calls Try.prog 5 #[.slice a l.length c] W fun e w' => e = .returned (.string (showV l)) ∧ Below W.heap.size W w') := fun W lo' a c h => specTrailShow_any l _ W lo' W.heap.size h.mks (Nat.le_refl _)
  have HIm : Hid (∀ W lo' a c, McsAt W lo' W.heap.size (.slice a l.length c) l → Calls Try.prog 7 #[.slice a l.length c] W fun e w' => e = .returned (.string (showV l)) ∧ Below W.heap.size W w') := fun W lo' a c h => implTrailShow_any l _ W lo' W.heap.size h (Nat.le_refl _)
  have HEq : Hid (∀ W lo1 hi1 lo2 a c a2 c2, McsAt W lo1 hi1 (.slice a l.length c) l → hi1 ≤ W.heap.size → McsAt W lo2 W.heap.size (.slice a2 l.length c2) l → Calls Try.prog 8 #[.slice a l.length c, .slice a2 l.length c2] W fun e w' => e = .returned (.bool true) ∧ Below W.heap.size W w') :=
    fun W lo1 hi1 lo2 a c a2 c2 h1 h2 h3 => eqMarkS_any l _ _ W lo1 hi1 lo2 W.heap.size h1.mks h3.mks h2 (Nat.le_refl _)
  obtain ⟨va, vc, rfl, hl, _⟩ := hv
  unfold maxLen at hl
  generalize szKids szM l 1048576 = sz at HSz HTo
  generalize showV l = ok at HSp HIm
  go_enter Try.func3, Try.ntmps3
  go_wp2_with fail
  refine HSz.out.mono ?_
  rintro e w1 ⟨rfl, hB1⟩
  have HB1 := hide hB1
  clear hB1 HSz
  by_cases hz : sz < 0
  · go_wp2_with fail
    go_ret
    exact ⟨rfl, HB1.out⟩
  · have HTo := hide (HTo.out (by omega))
    go_wp2_with fail
    refine (HTo.out w1 HB1.out).mono ?_
    rintro e w2 ⟨a2, rfl, hR2, hB2⟩
    have HR2 := hide hR2
    have HB2 : Hid (Below w.heap.size w w2) := HB1.out.trans (hB2.mono HB1.out.size)
    clear hR2 hB2
    go_wp2_with fail
    refine (HSp.out w2 _ a2 _ HR2.out).mono ?_
    rintro e w3 ⟨rfl, hB3⟩
    have HB3 : Hid (Below w.heap.size w w3) := HB2.out.trans (hB3.mono HB2.out.size)
    clear hB3 HR2
    go_wp2_with fail
    refine (HTo.out w3 HB3.out).mono ?_
    rintro e w4 ⟨a4, rfl, hR4, hB4⟩
    have HR4 := hide hR4
    have HB4 : Hid (Below w.heap.size w w4) := HB3.out.trans (hB4.mono HB3.out.size)
    clear hR4 hB4
    go_wp2_with fail
    refine (HIm.out w4 _ a4 _ HR4.out).mono ?_
    rintro e w6 ⟨rfl, hB6⟩
    have HB6 : Hid (Below w.heap.size w w6) := HB4.out.trans (hB6.mono HB4.out.size)
    have HR6 : Hid (McsAt w6 w3.heap.size w4.heap.size (.slice a4 l.length l.length) l) := HR4.out.keep hB6 (Nat.le_refl _)
    have HZ6 : Hid (w4.heap.size ≤ w6.heap.size) := hB6.size
    clear hB6 HR4
    have hnn : (ok.toList != ok.toList) = false := by simp
    go_wp2_with fail
    refine (HTo.out w6 HB6.out).mono ?_
    rintro e w7 ⟨a7, rfl, hR7, hB7⟩
    have HR7 := hide hR7
    have HB7 : Hid (Below w.heap.size w w7) := HB6.out.trans (hB7.mono HB6.out.size)
    have HE := hide (HEq.out w7 w3.heap.size w4.heap.size w6.heap.size a4 l.length a7 l.length (HR6.out.keep hB7 HZ6.out) (Nat.le_trans HZ6.out hB7.size) HR7.out)
    clear hR7 hB7
    go_wp2_with fail
    refine HE.out.mono ?_
    rintro e w8 ⟨rfl, hB8⟩
    have HB8 : Hid (Below w.heap.size w w8) := HB7.out.trans (hB8.mono HB7.out.size)
    clear hB8
    go_wp2_with fail
    go_ret
    exact ⟨rfl, HB8.out⟩

end Go.Proofs.Ytjnfdjoglmbnoaa
