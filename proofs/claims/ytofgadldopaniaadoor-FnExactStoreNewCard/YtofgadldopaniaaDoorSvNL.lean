/- The program's StoreNew; the law FnExactStoreNew: it returns true, whatever text it is called with. -/
import Derived.Test.YtofgadldopaniaaDoorSvC
import Derived.Test.YtofgadldopaniaaDoorSvT
namespace Go.Proofs.YtofgadldopaniaaDoor
open Go.RowKit

def newV (s : ByteArray) : List Rw := if s.size ≤ 5760 then savedV 1 s else []
theorem newV_length (s : ByteArray) : (newV s).length ≤ 92 := by
  unfold newV
  split
  · rw [savedV_length]; omega
  · simp
theorem newV_sizes (s : ByteArray) (hs : s.size ≤ 1048576) : ∀ (i : Nat) (h : i < (newV s).length), (newV s)[i].data.size ≤ maxLen := by
  unfold newV
  split
  · exact savedV_sizes 1 s (by decide) (by omega)
  · intro i h; simp at h

set_option maxHeartbeats 1000000 in
theorem implStoreNew_any (B : Nat) (s : ByteArray) (w : World) (hT : Tab B w) (hB : B ≤ w.heap.size) (hs : s.size ≤ 1048576) :
    Calls Tryd.prog 7 #[.string s] w fun e w' => ∃ v, e = .returned (.tuple #[v, .bool (decide (s.size ≤ 5760))]) ∧ RwRow w' w.heap.size v (newV s) ∧ Below w.heap.size w w' := by
  have HS := hide (checkpointWrites_any B 1 s w hT hB (by decide) hs)
  unfold newV
  by_cases h : s.size ≤ 5760
  · rw [decide_eq_true h]
    rw [if_pos h]
    go_enter Tryd.func7, Tryd.ntmps7
    go_wp2_with (go_at_call 22; refine HS.out.mono ?_; rintro e2 w2 ⟨v, rfl, hR, hB⟩; have HR := hide hR; have HB := hide hB; clear hR hB)
    go_ret2
    exact ⟨_, rfl, HR.out, HB.out⟩
  · rw [decide_eq_false h]
    rw [if_neg h]
    go_enter Tryd.func7, Tryd.ntmps7
    go_wp2
    go_ret2
    exact ⟨_, rfl, RwRow.nil _ _, Below.refl _ _⟩

set_option maxHeartbeats 4000000 in
set_option maxRecDepth 100000 in
theorem storeNewLaw_any (s : ByteArray) (w : World) (hT : Tab w.heap.size w) :
    Calls Tryd.prog 3 #[.string s] w fun e w' => e = .returned (.bool true) ∧ Below w.heap.size w w' := by
  by_cases hs : s.size ≤ 1048576
  · have HSp : Hid (∀ W, Below w.heap.size w W → Calls Tryd.prog 6 #[.string s] W fun e w' => ∃ a c, e = .returned (.tuple #[.slice a (newV s).length c, .bool (decide (s.size ≤ 5760))]) ∧ RwsAt w' W.heap.size w'.heap.size (.slice a (newV s).length c) (newV s) ∧ Below W.heap.size W w') := fun W hW =>
      (specStoreNew_any s W hs).mono fun e w' ⟨v, h1, h2, h3⟩ => by
        obtain ⟨a, c, b, rfl, ho⟩ := RwRow.ow (l := newV s) h2 (newV_sizes s hs)
        exact ⟨a, c, h1, ho.rws, h3⟩
    have HIm : Hid (∀ W, Below w.heap.size w W → Calls Tryd.prog 7 #[.string s] W fun e w' => ∃ a c b, e = .returned (.tuple #[.slice a (newV s).length c, .bool (decide (s.size ≤ 5760))]) ∧ OwRws w' W.heap.size w'.heap.size b (.slice a (newV s).length c) (newV s) ∧ Below W.heap.size W w') := fun W hW =>
      (implStoreNew_any w.heap.size s W (hT.keep hW) hW.size hs).mono fun e w' ⟨v, h1, h2, h3⟩ => by
        obtain ⟨a, c, b, rfl, ho⟩ := RwRow.ow (l := newV s) h2 (newV_sizes s hs)
        exact ⟨a, c, b, h1, ho, h3⟩
    have hl := newV_length s
    generalize newV s = V at *
    have HEq : Hid (∀ W lo1 hi1 lo2 hi2 a c a2 c2, RwsAt W lo1 hi1 (.slice a V.length c) V → hi1 ≤ W.heap.size → RwsAt W lo2 hi2 (.slice a2 V.length c2) V → hi2 ≤ W.heap.size → Calls Tryd.prog 8 #[.slice a V.length c, .slice a2 V.length c2] W fun e w' => e = .returned (.bool true) ∧ Below W.heap.size W w') :=
      fun W lo1 hi1 lo2 hi2 a c a2 c2 h1 h2 h3 h4 => eqRawS_any V _ _ W lo1 hi1 lo2 hi2 h1 h3 h2 h4
    have HMk : Hid (∀ W lo hi a c b, OwRws W lo hi b (.slice a V.length c) V → hi ≤ W.heap.size → Calls Tryd.prog 9 #[.slice a V.length c, .int .i64 1] W fun e w' => ∃ n : Nat, e = .returned (.int .i64 (n : Int)) ∧ n = 1 + 2 * V.length ∧ RwsAt w' lo hi (.slice a V.length c) (markK gR cR V 1) ∧ InR lo hi W w') :=
      fun W lo hi a c b h1 h2 => (markRawS_own V _ b 1 W lo hi h1 h2 (by omega)).mono fun e w' ⟨g1, g2, g3⟩ => ⟨_, g1, rfl, g2.rws, g3⟩
    have HHd : Hid (∀ W lo hi a c (n : Nat), n = 1 + 2 * V.length → RwsAt W lo hi (.slice a V.length c) (markK gR cR V 1) → hi ≤ W.heap.size → Calls Tryd.prog 10 #[.slice a V.length c, .int .i64 1] W fun e w' => e = .returned (.int .i64 (n : Int)) ∧ Below W.heap.size W w') :=
      fun W lo hi a c n hn h1 h2 => by subst hn; exact heldRawS_any V _ 1 W lo hi h1 h2 (by omega)
    generalize (decide (s.size ≤ 5760)) = ok at *
    have hnn : (ok != ok) = false := by cases ok <;> rfl
    go_enter Tryd.func3, Tryd.ntmps3
    go_wp2_with fail
    refine (HSp.out w (Below.refl _ _)).mono ?_
    rintro e w1 ⟨a1, c1, rfl, hR1, hB1⟩
    have HR1 := hide hR1
    have HB1 := hide hB1
    clear hR1 hB1 HSp
    go_wp2_with fail
    refine (HIm.out w1 HB1.out).mono ?_
    rintro e w2 ⟨a2, c2, b2, rfl, hO2, hB2⟩
    have HO2 := hide hO2
    have HB2 : Hid (Below w.heap.size w w2) := HB1.out.trans (hB2.mono HB1.out.size)
    have HR2 := hide (HR1.out.keep hB2 (Nat.le_refl _))
    have HZ2 : Hid (w.heap.size ≤ w1.heap.size ∧ w1.heap.size ≤ w2.heap.size) := ⟨HB1.out.size, hB2.size⟩
    clear hO2 hB2 HR1
    go_wp2_with fail
    refine (HEq.out w2 _ _ _ _ a2 c2 a1 c1 HO2.out.rws (Nat.le_refl _) HR2.out HZ2.out.2).mono ?_
    rintro e w3 ⟨rfl, hB3⟩
    have HO3 := hide (HO2.out.same (sameIn_below hB3 (Nat.le_refl _)))
    have HR3 := hide (HR2.out.keep hB3 HZ2.out.2)
    have HB3 : Hid (Below w.heap.size w w3) := HB2.out.trans (hB3.mono HB2.out.size)
    have HZ3 := hide hB3.size
    clear hB3 HO2 HR2
    go_wp2_with fail
    refine (HMk.out w3 _ _ a2 c2 b2 HO3.out HZ3.out).mono ?_
    rintro e w4 ⟨n, rfl, hn, hM4, hI4⟩
    have HN := hide hn
    have HM4 := hide hM4
    have HR4 : Hid (RwsAt w4 w.heap.size w1.heap.size (.slice a1 V.length c1) V) := HR3.out.same (hI4.sameIn (fun k _ h2 => by omega) (Nat.le_trans HZ2.out.2 HZ3.out))
    have HB4 : Hid (Below w.heap.size w w4) := HB3.out.trans (hI4.toBelow HZ2.out.1 HB3.out.size)
    have HZ4 : Hid (w2.heap.size ≤ w4.heap.size) := Nat.le_trans HZ3.out hI4.size
    have hn1 : (1 : Int) ≤ (n : Int) := by omega
    clear hn hM4 hI4 HO3 HR3 HMk
    go_wp2_with fail
    refine (HHd.out w4 _ _ a2 c2 n HN.out HM4.out HZ4.out).mono ?_
    rintro e w5 ⟨rfl, hB5⟩
    have HM5 := hide (HM4.out.keep hB5 HZ4.out)
    have HR5 := hide (HR4.out.keep hB5 (Nat.le_trans HZ2.out.2 HZ4.out))
    have HB5 : Hid (Below w.heap.size w w5) := HB4.out.trans (hB5.mono HB4.out.size)
    have HZ5 : Hid (w2.heap.size ≤ w5.heap.size) := Nat.le_trans HZ4.out hB5.size
    have hneg : ¬ ((n : Int) < 0) := by omega
    have hne : ((n : Int) != (n : Int)) = false := by simp
    clear hB5 HM4 HR4
    go_wp2_with fail
    refine (HIm.out w5 HB5.out).mono ?_
    rintro e w6 ⟨a6, c6, b6, rfl, hO6, hB6⟩
    have HO6 := hide hO6.rws
    have HM6 := hide (HM5.out.keep hB6 HZ5.out)
    have HR6 := hide (HR5.out.keep hB6 (Nat.le_trans HZ2.out.2 HZ5.out))
    have HB6 : Hid (Below w.heap.size w w6) := HB5.out.trans (hB6.mono HB5.out.size)
    have HZ6 : Hid (w2.heap.size ≤ w6.heap.size) := Nat.le_trans HZ5.out hB6.size
    clear hO6 hB6 HM5 HR5
    go_wp2_with fail
    refine (HEq.out w6 _ _ _ _ a6 c6 a1 c1 HO6.out (Nat.le_refl _) HR6.out (Nat.le_trans HZ2.out.2 HZ6.out)).mono ?_
    rintro e w7 ⟨rfl, hB7⟩
    have HM7 := hide (HM6.out.keep hB7 HZ6.out)
    have HB7 : Hid (Below w.heap.size w w7) := HB6.out.trans (hB7.mono HB6.out.size)
    have HZ7 : Hid (w2.heap.size ≤ w7.heap.size) := Nat.le_trans HZ6.out hB7.size
    clear hB7 HM6 HO6 HR6
    go_wp2_with fail
    refine (HHd.out w7 _ _ a2 c2 n HN.out HM7.out HZ7.out).mono ?_
    rintro e w8 ⟨rfl, hB8⟩
    have HB8 : Hid (Below w.heap.size w w8) := HB7.out.trans (hB8.mono HB7.out.size)
    clear hB8
    go_wp2_with fail
    go_ret
    exact ⟨rfl, HB8.out⟩
  · go_enter Tryd.func3, Tryd.ntmps3
    go_wp2_with fail
    go_ret
    exact ⟨rfl, Below.refl _ _⟩

end Go.Proofs.YtofgadldopaniaaDoor
