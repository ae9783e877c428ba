/- The specification's TreeRead. -/
import Derived.Test.YtnfidecbbijpfaaDoorProg
import Derived.Test.YtnfidecbbijpfaaDoorReadS
namespace Go.Proofs.YtnfidecbbijpfaaDoor
open Go.RowKit

set_option maxHeartbeats 4000000 in
set_option maxRecDepth 100000 in
theorem specTreeRead_any (n : Nat) (t : T n) (nv kv : Value) (pa : Option Addr) (pc : Nat) (path : List ByteArray) (a k : Int) (w : World) (lo hi lo' hi' : Nat) (hrep : Rep w lo hi n t nv kv) (hpath : StrsAt w lo' hi' (.slice pa path.length pc) path) (hpc : path.length ≤ pc) (hpm : pc ≤ maxLen)
    (hhi : hi ≤ w.heap.size) (hhi' : hi' ≤ w.heap.size) (hcnt : countT n t ≤ 1048576) (hwa : (Lit.int .i64 a).wf = true) (hwk : (Lit.int .i64 k).wf = true) :
    Calls Tryd.prog 7 #[aggT n t nv kv, .slice pa path.length pc, .int .i64 a, .int .i64 k] w fun e w' => e = .returned (.tuple #[.string (readT n t path a k).1, .int .i64 (readT n t path a k).2]) ∧ Below w.heap.size w w' := by
  obtain ⟨va, vm, vc, ua, um, uc, rfl, rfl⟩ := hrep.slices
  have HOk : Hid (∀ W, Below w.heap.size w W → Calls Tryd.prog 19 #[.agg #[.bool (headT n t).1, .int .i64 (headT n t).2.1, .string (headT n t).2.2, .slice va vm vc, .slice ua um uc]] W fun e w' => e = .returned (.bool (okT n t)) ∧ Below W.heap.size W w') := fun W hW =>
    specTreeOk_any n t _ _ W lo hi (Rep.keep hW hhi _ _ _ _ hrep) (Nat.le_trans hhi hW.size) hcnt
  have HAt : okT n t = true → ∀ W, Below w.heap.size w W → Calls Tryd.prog 20 #[.agg #[.bool (headT n t).1, .int .i64 (headT n t).2.1, .string (headT n t).2.2, .slice va vm vc, .slice ua um uc], .slice pa path.length pc] W fun e w' => ∃ nv' kv', e = .returned (.tuple #[aggT (orZero (atT n t path)).1 (orZero (atT n t path)).2 nv' kv', .bool (atT n t path).isSome]) ∧ Rep w' lo hi (orZero (atT n t path)).1 (orZero (atT n t path)).2 nv' kv' ∧ Below W.heap.size W w' := fun hok W hW =>
    at_any n t _ _ pa pc path W lo hi lo' hi' (Rep.keep hW hhi _ _ _ _ hrep) (allGood_of_ok n t hok) (hpath.keep hW hhi') hpc hpm (Nat.le_trans hhi hW.size) (Nat.le_trans hhi' hW.size)
  have HA0 : Hid (okT n t = true → atT n t path = none → ∀ W, Below w.heap.size w W → Calls Tryd.prog 20 #[.agg #[.bool (headT n t).1, .int .i64 (headT n t).2.1, .string (headT n t).2.2, .slice va vm vc, .slice ua um uc], .slice pa path.length pc] W fun e w' => ∃ na nm nc ka km kc, e = .returned (.tuple #[.agg #[.bool false, .int .i64 0, .string ⟨#[]⟩, .slice na nm nc, .slice ka km kc], .bool false]) ∧ Below W.heap.size W w') := fun hok hat W hW => by
    have h := HAt hok W hW
    rw [hat] at h
    refine h.mono ?_
    rintro e w' ⟨nv', kv', rfl, h2, h3⟩
    obtain ⟨xa, xm, xc, ya, ym, yc, rfl, rfl⟩ := h2.slices
    exact ⟨_, _, _, _, _, _, rfl, h3⟩
  have HA1 : Hid (okT n t = true → ∀ (m : Nat) (u : T (m + 1)), atT n t path = some ⟨m + 1, u⟩ → ∀ W, Below w.heap.size w W → Calls Tryd.prog 20 #[.agg #[.bool (headT n t).1, .int .i64 (headT n t).2.1, .string (headT n t).2.2, .slice va vm vc, .slice ua um uc], .slice pa path.length pc] W fun e w' => ∃ na nm nc ka km kc, e = .returned (.tuple #[.agg #[.bool u.dir, .int .i64 u.mode, .string u.data, .slice na nm nc, .slice ka km kc], .bool true]) ∧ Below W.heap.size W w') := fun hok m u hat W hW => by
    have h := HAt hok W hW
    rw [hat] at h
    refine h.mono ?_
    rintro e w' ⟨nv', kv', rfl, h2, h3⟩
    obtain ⟨xa, xm, xc, ya, ym, yc, rfl, rfl⟩ := h2.slices
    exact ⟨_, _, _, _, _, _, rfl, h3⟩
  have HDs : Hid (okT n t = true → ∀ (m : Nat) (u : T (m + 1)), atT n t path = some ⟨m + 1, u⟩ → u.data.size ≤ 24) := fun hok m u e => by
    obtain ⟨h1, _⟩ := ok_parts hok
    obtain ⟨d', hd'⟩ := at_parts h1 e
    exact data_small hd'
  have HR1 : Hid (okT n t = false → readT n t path a k = (⟨#[]⟩, 1)) := fun h => by rw [readT, if_pos h]
  have HR2 : Hid (okT n t = true → (a < 0 ∨ k < 0) → readT n t path a k = (⟨#[]⟩, 2)) := fun h h2 => by rw [readT, if_neg (by rw [h]; decide), if_pos h2]
  have HR3 : Hid (okT n t = true → ¬ (a < 0 ∨ k < 0) → atT n t path = none → readT n t path a k = (⟨#[]⟩, 3)) := fun h h2 h3 => by rw [readT, if_neg (by rw [h]; decide), if_neg h2, h3]
  have HR4 : Hid (okT n t = true → ¬ (a < 0 ∨ k < 0) → ∀ (m : Nat) (u : T (m + 1)), atT n t path = some ⟨m + 1, u⟩ → readT n t path a k = if u.dir then (⟨#[]⟩, 4) else (readB u.data a k, 0)) := fun h h2 m u h3 => by rw [readT, if_neg (by rw [h]; decide), if_neg h2, h3]; rfl
  have hka : -9223372036854775808 ≤ a ∧ a ≤ 9223372036854775807 := by simpa [Lit.wf, IntKind.min, IntKind.max, IntKind.signed, IntKind.bits] using hwa
  have hkk : -9223372036854775808 ≤ k ∧ k ≤ 9223372036854775807 := by simpa [Lit.wf, IntKind.min, IntKind.max, IntKind.signed, IntKind.bits] using hwk
  clear hrep hpath HAt hcnt hwa hwk
  unfold maxLen at hpm
  generalize readT n t path a k = res at HR1 HR2 HR3 HR4 ⊢
  show Calls Tryd.prog 7 #[.agg #[.bool (headT n t).1, .int .i64 (headT n t).2.1, .string (headT n t).2.2, .slice va vm vc, .slice ua um uc], .slice pa path.length pc, .int .i64 a, .int .i64 k] w _
  generalize atT n t path = at1 at HA0 HA1 HDs HR3 HR4 ⊢
  generalize okT n t = ok at HOk HA0 HA1 HDs HR1 HR2 HR3 HR4 ⊢
  generalize (headT n t).1 = hd at HOk HA0 HA1 ⊢
  generalize (headT n t).2.1 = hm at HOk HA0 HA1 ⊢
  generalize (headT n t).2.2 = hda at HOk HA0 HA1 ⊢
  go_enter Tryd.func7, Tryd.ntmps7
  go_wp2_with fail
  generalize hW : (w.alloc (Obj.cells #[.bool hd, .int .i64 hm, .string hda, .slice va vm vc, .slice ua um uc] 32)) = W
  have HW : Hid (Below w.heap.size w W ∧ Blk W w.heap.size #[.bool hd, .int .i64 hm, .string hda, .slice va vm vc, .slice ua um uc] 32) := by
    subst hW
    exact ⟨(Below.refl _ _).alloc (Nat.le_refl _) _, Blk.new _ _ _⟩
  clear hW
  refine (HOk.out W HW.out.1).mono ?_
  rintro e w1 ⟨rfl, hB1⟩
  have HBw1 : Hid (Below w.heap.size w w1) := HW.out.1.trans (hB1.mono HW.out.1.size)
  have HX1 : Hid (Blk w1 w.heap.size #[.bool hd, .int .i64 hm, .string hda, .slice va vm vc, .slice ua um uc] 32) := HW.out.2.below hB1 HW.out.2.lt
  clear hB1
  cases ok with
  | false =>
    have hr := HR1.out (by first | rfl | trivial)
    subst hr
    go_wp2_with fail
    go_ret2
    exact ⟨rfl, HBw1.out⟩
  | true =>
    have x0 := HX1.out.cell 0 _ rfl
    have x1 := HX1.out.cell 1 _ rfl
    have x2 := HX1.out.cell 2 _ rfl
    have x3 := HX1.out.cell 3 _ rfl
    have x4 := HX1.out.cell 4 _ rfl
    cases hat : at1 with
    | none =>
      have HA := hide (HA0.out (by first | rfl | trivial) hat w1 HBw1.out)
      have HAt := hide hat
      clear hat
      go_wp2_with fail
      refine HA.out.mono ?_
      rintro e w2 ⟨na, nm, nc, ka, km, kc, rfl, hB2⟩
      have HBw2 : Hid (Below w.heap.size w w2) := HBw1.out.trans (hB2.mono HBw1.out.size)
      have HBw3 : Hid (∀ o, Below w.heap.size w (w2.alloc o)) := fun o => HBw2.out.alloc HBw2.out.size o
      clear hB2 x0 x1 x2 x3 x4 HA
      by_cases ha : a < 0
      · have hr := HR2.out (by first | rfl | trivial) (.inl ha)
        subst hr
        go_wp2_with fail
        all_goals
          go_ret2
          exact ⟨rfl, HBw3.out _⟩
      · by_cases hk : k < 0
        · have hr := HR2.out (by first | rfl | trivial) (.inr hk)
          subst hr
          go_wp2_with fail
          all_goals
            go_ret2
            exact ⟨rfl, HBw3.out _⟩
        · have hr := HR3.out (by first | rfl | trivial) (by omega) HAt.out
          subst hr
          go_wp2_with fail
          all_goals
            go_ret2
            exact ⟨rfl, HBw3.out _⟩
    | some x =>
      obtain ⟨m, u⟩ := x
      cases m with
      | zero => exact Empty.elim (show Empty from u)
      | succ m =>
      have HA := hide (HA1.out (by first | rfl | trivial) m u hat w1 HBw1.out)
      have hds := HDs.out (by first | rfl | trivial) m u hat
      have HAt := hide hat
      clear hat
      go_wp2_with fail
      refine HA.out.mono ?_
      rintro e w2 ⟨na, nm, nc, ka, km, kc, rfl, hB2⟩
      have HBw2 : Hid (Below w.heap.size w w2) := HBw1.out.trans (hB2.mono HBw1.out.size)
      have HBw3 : Hid (∀ o, Below w.heap.size w (w2.alloc o)) := fun o => HBw2.out.alloc HBw2.out.size o
      clear hB2 x0 x1 x2 x3 x4 HA
      by_cases ha : a < 0
      · have hr := HR2.out (by first | rfl | trivial) (.inl ha)
        subst hr
        go_wp2_with fail
        all_goals
          go_ret2
          exact ⟨rfl, HBw3.out _⟩
      · by_cases hk : k < 0
        · have hr := HR2.out (by first | rfl | trivial) (.inr hk)
          subst hr
          go_wp2_with fail
          all_goals
            go_ret2
            exact ⟨rfl, HBw3.out _⟩
        · have hr := HR4.out (by first | rfl | trivial) (by omega) m u HAt.out
          have HR := hide hr
          clear hr HR1 HR2 HR3 HR4 HA0 HA1 HDs HAt
          generalize u.dir = ud at HR ⊢
          generalize u.data = da at HR hds ⊢
          generalize u.mode = mo at HR ⊢
          cases ud with
          | true =>
            have hr := HR.out
            rw [if_pos rfl] at hr
            subst hr
            go_wp2_with fail
            all_goals
              go_ret2
              exact ⟨rfl, HBw3.out _⟩
          | false =>
            have hr := HR.out
            rw [if_neg (by decide), readB] at hr
            have HRr := hide hr
            clear hr HR
            by_cases h1 : a < da.size
            · by_cases h2 : k < da.size - a
              · have hr := HRr.out
                rw [if_pos h1, if_pos h2] at hr
                have he : a.toNat + k.toNat = (a + k).toNat := by omega
                rw [he] at hr
                clear he
                subst hr
                go_wp2_with fail
                all_goals
                  go_ret2
                  exact ⟨rfl, HBw3.out _⟩
              · have hr := HRr.out
                rw [if_pos h1, if_neg h2] at hr
                by_cases h3 : k = da.size - a
                · have he : da.size = (a + k).toNat := by omega
                  have hr2 : res = (da.extract a.toNat (a + k).toNat, 0) := by rw [hr, ← he]
                  clear he hr
                  subst hr2
                  go_wp2_with fail
                  all_goals
                    go_ret2
                    exact ⟨rfl, HBw3.out _⟩
                · subst hr
                  have h4 : da.size - a < k := by omega
                  go_wp2_with fail
                  all_goals
                    go_ret2
                    exact ⟨rfl, HBw3.out _⟩
            · have hr := HRr.out
              rw [if_neg h1] at hr
              subst hr
              go_wp2_with fail
              all_goals
                go_ret2
                exact ⟨rfl, HBw3.out _⟩

end Go.Proofs.YtnfidecbbijpfaaDoor
