/- The specification's TreeList. -/
import Derived.Test.YtnfidecbbijpfaaDoorProg
import Derived.Test.YtnfidecbbijpfaaDoorList
namespace Go.Proofs.YtnfidecbbijpfaaDoor
open Go.RowKit

theorem own_none {w : World} {base b : Nat} {e : TypeId} (h : Blk w b #[] e) (hb : base ≤ b) : w.ownsRow base e 1 (.slice (some ⟨b, 0, none⟩) 0 0) 0 [] :=
  ⟨rfl, .inr ⟨b, 0, #[], rfl, hb, h, Nat.le_refl _, by unfold maxLen; omega, rfl, rfl⟩⟩
theorem strs_none (w : World) (lo hi : Nat) (a : Option Addr) (c : Nat) : StrsAt w lo hi (.slice a 0 c) [] := ⟨a, c, rfl, Nat.zero_le _, fun i h => by simp at h, fun h => by simp at h⟩
theorem strs_row {w : World} {base : Nat} {v : Value} {l : List ByteArray} (h : w.ownsRow base 9 1 v l.length (l.map .string)) (hl : l.length ≤ maxLen) (hs : ∀ (i : Nat) (h : i < l.length), l[i].size ≤ maxLen) : StrsAt w base w.heap.size v l := by
  obtain ⟨a, cap, rfl⟩ := ownsRow_form h
  refine ⟨a, cap, rfl, hl, hs, fun h0 => ?_⟩
  obtain ⟨g, cap', hv, hb, hlt⟩ := ownsRow_at h h0
  simp only [Value.slice.injEq, true_and] at hv
  obtain ⟨rfl, rfl⟩ := hv
  refine ⟨g, 0, rfl, hb, hlt, fun i hi => ?_⟩
  have := h.cellAt i (by omega)
  rw [Nat.zero_add, this, List.getElem?_map, List.getElem?_eq_getElem hi]; rfl

set_option maxHeartbeats 4000000 in
set_option maxRecDepth 100000 in
theorem specTreeList_any (n : Nat) (t : T n) (nv kv : Value) (pa : Option Addr) (pc : Nat) (path : List ByteArray) (w : World) (lo hi lo' hi' : Nat) (hrep : Rep w lo hi n t nv kv) (hpath : StrsAt w lo' hi' (.slice pa path.length pc) path) (hpc : path.length ≤ pc) (hpm : pc ≤ maxLen)
    (hhi : hi ≤ w.heap.size) (hhi' : hi' ≤ w.heap.size) (hcnt : countT n t ≤ 1048576) :
    Calls Tryd.prog 13 #[aggT n t nv kv, .slice pa path.length pc] w fun e w' => ∃ a c, e = .returned (.tuple #[.slice a (listT n t path).1.length c, .int .i64 (listT n t path).2]) ∧ StrsAt w' w.heap.size w'.heap.size (.slice a (listT n t path).1.length c) (listT n t path).1 ∧ Below w.heap.size w w' := by
  obtain ⟨va, vm, vc, ua, um, uc, rfl, rfl⟩ := hrep.slices
  have HOk : Hid (∀ W, Below w.heap.size w W → Calls Tryd.prog 19 #[.agg #[.bool (headT n t).1, .int .i64 (headT n t).2.1, .string (headT n t).2.2, .slice va vm vc, .slice ua um uc]] W fun e w' => e = .returned (.bool (okT n t)) ∧ Below W.heap.size W w') := fun W hW =>
    specTreeOk_any n t _ _ W lo hi (Rep.keep hW hhi _ _ _ _ hrep) (Nat.le_trans hhi hW.size) hcnt
  have HAt : okT n t = true → ∀ W, Below w.heap.size w W → Calls Tryd.prog 20 #[.agg #[.bool (headT n t).1, .int .i64 (headT n t).2.1, .string (headT n t).2.2, .slice va vm vc, .slice ua um uc], .slice pa path.length pc] W fun e w' => ∃ nv' kv', e = .returned (.tuple #[aggT (orZero (atT n t path)).1 (orZero (atT n t path)).2 nv' kv', .bool (atT n t path).isSome]) ∧ Rep w' lo hi (orZero (atT n t path)).1 (orZero (atT n t path)).2 nv' kv' ∧ Below W.heap.size W w' := fun hok W hW =>
    at_any n t _ _ pa pc path W lo hi lo' hi' (Rep.keep hW hhi _ _ _ _ hrep) (allGood_of_ok n t hok) (hpath.keep hW hhi') hpc hpm (Nat.le_trans hhi hW.size) (Nat.le_trans hhi' hW.size)
  have HA0 : Hid (okT n t = true → atT n t path = none → ∀ W, Below w.heap.size w W → Calls Tryd.prog 20 #[.agg #[.bool (headT n t).1, .int .i64 (headT n t).2.1, .string (headT n t).2.2, .slice va vm vc, .slice ua um uc], .slice pa path.length pc] W fun e w' => ∃ na nm nc ka km kc, e = .returned (.tuple #[.agg #[.bool false, .int .i64 0, .string ⟨#[]⟩, .slice na nm nc, .slice ka km kc], .bool false]) ∧ Below W.heap.size W w') := fun hok hat W hW => by
    have h := HAt hok W hW
    rw [hat] at h
    refine h.mono ?_
    rintro e w' ⟨nv', kv', rfl, h2, h3⟩
    obtain ⟨xa, xm, xc, ya, ym, yc, rfl, rfl⟩ := h2.slices
    exact ⟨_, _, _, _, _, _, rfl, h3⟩
  have HA1 : Hid (okT n t = true → ∀ (m : Nat) (u : T (m + 1)), atT n t path = some ⟨m + 1, u⟩ → ∀ W, Below w.heap.size w W → Calls Tryd.prog 20 #[.agg #[.bool (headT n t).1, .int .i64 (headT n t).2.1, .string (headT n t).2.2, .slice va vm vc, .slice ua um uc], .slice pa path.length pc] W fun e w' => ∃ na nc ka km kc, e = .returned (.tuple #[.agg #[.bool u.dir, .int .i64 u.mode, .string u.data, .slice na u.names.length nc, .slice ka km kc], .bool true]) ∧ StrsAt w' lo hi (.slice na u.names.length nc) u.names ∧ Below W.heap.size W w') := fun hok m u hat W hW => by
    have h := HAt hok W hW
    rw [hat] at h
    refine h.mono ?_
    rintro e w' ⟨nv', kv', rfl, h2, h3⟩
    obtain ⟨xa, xm, xc, ya, ym, yc, rfl, rfl⟩ := h2.slices
    have h4 : StrsAt w' lo hi (.slice xa xm xc) u.names := h2.2.2.1
    obtain ⟨a', c', he, _⟩ := id h4
    simp only [Value.slice.injEq] at he
    obtain ⟨rfl, rfl, rfl⟩ := he
    exact ⟨_, _, _, _, _, rfl, h4, h3⟩
  have HDs : Hid (okT n t = true → ∀ (m : Nat) (u : T (m + 1)), atT n t path = some ⟨m + 1, u⟩ → u.names.length ≤ 1048576) := fun hok m u e =>
    (atT_ind AllGood (fun _ _ h i hi => h.2 i hi) n t path (m + 1) u (allGood_of_ok n t hok) e).1.small
  have HR1 : Hid (okT n t = false → listT n t path = ([], 1)) := fun h => by rw [listT, if_pos h]
  have HR3 : Hid (okT n t = true → atT n t path = none → listT n t path = ([], 3)) := fun h h3 => by rw [listT, if_neg (by rw [h]; decide), h3]
  have HR4 : Hid (okT n t = true → ∀ (m : Nat) (u : T (m + 1)), atT n t path = some ⟨m + 1, u⟩ → listT n t path = if u.dir then (u.names, 0) else ([], 4)) := fun h m u h3 => by rw [listT, if_neg (by rw [h]; decide), h3]; rfl
  clear hrep hpath HAt hcnt
  unfold maxLen at hpm
  generalize listT n t path = res at HR1 HR3 HR4 ⊢
  show Calls Tryd.prog 13 #[.agg #[.bool (headT n t).1, .int .i64 (headT n t).2.1, .string (headT n t).2.2, .slice va vm vc, .slice ua um uc], .slice pa path.length pc] w _
  generalize atT n t path = at1 at HA0 HA1 HDs HR3 HR4 ⊢
  generalize okT n t = ok at HOk HA0 HA1 HDs HR1 HR3 HR4 ⊢
  generalize (headT n t).1 = hd at HOk HA0 HA1 ⊢
  generalize (headT n t).2.1 = hm at HOk HA0 HA1 ⊢
  generalize (headT n t).2.2 = hda at HOk HA0 HA1 ⊢
  go_enter Tryd.func13, Tryd.ntmps13
  go_wp2_with fail
  generalize hW : (w.alloc (Obj.cells #[.bool hd, .int .i64 hm, .string hda, .slice va vm vc, .slice ua um uc] 32)) = W
  have HW : Hid (Below w.heap.size w W ∧ Blk W w.heap.size #[.bool hd, .int .i64 hm, .string hda, .slice va vm vc, .slice ua um uc] 32) := by
    subst hW
    exact ⟨(Below.refl _ _).alloc (Nat.le_refl _) _, Blk.new _ _ _⟩
  clear hW
  refine (HOk.out W HW.out.1).mono ?_
  rintro e w1 ⟨rfl, hB1⟩
  have HBw1 : Hid (Below w.heap.size w w1) := HW.out.1.trans (hB1.mono HW.out.1.size)
  have HX1 : Hid (Blk w1 w.heap.size #[.bool hd, .int .i64 hm, .string hda, .slice va vm vc, .slice ua um uc] 32) := HW.out.2.below hB1 HW.out.2.lt
  clear hB1
  cases ok with
  | false =>
    have hr := HR1.out (by first | rfl | trivial)
    subst hr
    go_wp2_with fail
    go_ret2
    exact ⟨_, _, rfl, strs_none _ _ _ _ _, HBw1.out.alloc HBw1.out.size _⟩
  | true =>
    have x0 := HX1.out.cell 0 _ rfl
    have x1 := HX1.out.cell 1 _ rfl
    have x2 := HX1.out.cell 2 _ rfl
    have x3 := HX1.out.cell 3 _ rfl
    have x4 := HX1.out.cell 4 _ rfl
    cases hat : at1 with
    | none =>
      have HA := hide (HA0.out (by first | rfl | trivial) hat w1 HBw1.out)
      have hr := HR3.out (by first | rfl | trivial) hat
      subst hr
      clear hat
      go_wp2_with fail
      refine HA.out.mono ?_
      rintro e w2 ⟨na, nm, nc, ka, km, kc, rfl, hB2⟩
      have HBw2 : Hid (Below w.heap.size w w2) := HBw1.out.trans (hB2.mono HBw1.out.size)
      clear hB2 x0 x1 x2 x3 x4 HA
      go_wp2_with fail
      go_ret2
      exact ⟨_, _, rfl, strs_none _ _ _ _ _, (HBw2.out.alloc HBw2.out.size _).alloc (by have := HBw2.out.size; simp; omega) _⟩
    | some x =>
      obtain ⟨m, u⟩ := x
      cases m with
      | zero => exact Empty.elim (show Empty from u)
      | succ m =>
      have HA := hide (HA1.out (by first | rfl | trivial) m u hat w1 HBw1.out)
      have hds := HDs.out (by first | rfl | trivial) m u hat
      have hr := HR4.out (by first | rfl | trivial) m u hat
      have HR := hide hr
      clear hat hr HR1 HR3 HR4 HA0 HA1 HDs
      generalize u.names = nms at HA HR hds ⊢
      generalize u.dir = ud at HA HR ⊢
      go_wp2_with fail
      refine HA.out.mono ?_
      rintro e w2 ⟨na, nc, ka, km, kc, rfl, hS2, hB2⟩
      have HBw2 : Hid (Below w.heap.size w w2) := HBw1.out.trans (hB2.mono HBw1.out.size)
      have HS2 := hide hS2
      clear hB2 hS2 x0 x1 x2 x3 x4 HA
      cases ud with
      | false =>
        have hr := HR.out
        rw [if_neg (by decide)] at hr
        subst hr
        go_wp2_with fail
        go_ret2
        exact ⟨_, _, rfl, strs_none _ _ _ _ _, (HBw2.out.alloc HBw2.out.size _).alloc (by have := HBw2.out.size; simp; omega) _⟩
      | true =>
        have hr := HR.out
        rw [if_pos rfl] at hr
        subst hr
        obtain ⟨a', c', he, _, hs, hc⟩ := HS2.out
        simp only [Value.slice.injEq, true_and] at he
        obtain ⟨rfl, rfl⟩ := he
        obtain ⟨iS, hiS', hzS, hsS, hbS⟩ := info_S
        have hiS := hide hiS'
        have HSz := hide hs
        clear hiS' hs
        have hws := HBw2.out.size
        have HBe : Hid (∀ o, Blk ((w2.alloc o).alloc (.cells #[] 9)) (w2.heap.size + 1) #[] 9 ∧ Below w.heap.size w ((w2.alloc o).alloc (.cells #[] 9))) := fun o => ⟨Blk.atn (by simp), (HBw2.out.alloc hws _).alloc (by simp; omega) _⟩
        by_cases h0 : 0 < nms.length
        · obtain ⟨b, o, rfl, hb1, hb2, hcell⟩ := hc h0
          have HC : Hid (∀ x, ∀ j v, (nms.map Value.string)[j]? = some v → ((w2.alloc x).alloc (.cells #[] 9)).cell? ((⟨b, o, none⟩ : Addr).add j) = some v) := fun x j v hv => by
            rw [List.getElem?_map] at hv
            by_cases hj : j < nms.length
            · rw [List.getElem?_eq_getElem hj] at hv
              have e : Addr.add ⟨b, o, none⟩ j = ⟨b, o + j, none⟩ := by unfold Addr.add; split <;> simp_all
              have hbe : Below w2.heap.size w2 ((w2.alloc x).alloc (.cells #[] 9)) := ((Below.refl _ _).alloc (Nat.le_refl _) _).alloc (by simp) _
              rw [e, hbe.cell (p := ⟨b, o + j, none⟩) (by show b < w2.heap.size; omega), hcell j hj]
              exact hv
            · rw [List.getElem?_eq_none (by omega)] at hv; cases hv
          clear hc hcell
          go_wp2_with (at_builtin; refine wpList_append_own_at _ rfl _ _ 22 rfl w2.heap.size 9 iS (.string ⟨#[]⟩) 1 16 Tryd.underlying22 hiS.out hzS hsS hbS rfl (by decide) (.slice (some ⟨w2.heap.size + 1, 0, none⟩) 0 0) 0 [] rfl (own_none (HBe.out _).1 (by omega)) ⟨b, o, none⟩ nms.length nc (nms.map .string) rfl (by simp) (HC.out _) (by simp [Value.oneCell']) (by unfold maxLen; omega) (by omega) (by simp; omega) ?_; intro v' w3 hown hgrow hnil hat; have HOWN := hide hown; have HGROW := hide hgrow; clear hown hgrow hat hnil)
          have hown : w3.ownsRow w2.heap.size 9 1 v' nms.length (nms.map .string) := by simpa using HOWN.out
          have hst := strs_row hown (by unfold maxLen; omega) HSz.out
          obtain ⟨av, cv, hv, _⟩ := id hst
          subst hv
          have HST := hide hst
          have HB3 : Hid (Below w.heap.size w w3) := ((HBe.out _).2).grown HGROW.out (by simp; omega) (fun q hq => by simp [Value.ownBlock] at hq; omega)
          clear hst hown
          go_wp2_with fail
          go_ret2
          exact ⟨_, _, rfl, HST.out.wide hws (Nat.le_refl _), HB3.out⟩
        · have hl0 : nms = [] := List.eq_nil_of_length_eq_zero (by omega)
          subst hl0
          clear hc
          clear HS2
          cases na with
          | none =>
            go_wp2_with fail
            go_ret2
            exact ⟨_, _, rfl, strs_none _ _ _ _ _, (HBe.out _).2⟩
          | some ad =>
            go_wp2_with (at_builtin; refine wpList_append_own_at _ rfl _ _ 22 rfl w2.heap.size 9 iS (.string ⟨#[]⟩) 1 16 Tryd.underlying22 hiS.out hzS hsS hbS rfl (by decide) (.slice (some ⟨w2.heap.size + 1, 0, none⟩) 0 0) 0 [] rfl (own_none (HBe.out _).1 (by omega)) ad 0 nc [] rfl (by simp) (fun j u h => by simp at h) (fun u h => by simp at h) (by unfold maxLen; omega) (by omega) (by simp; omega) ?_; intro v' w3 hown hgrow hnil hat; have HOWN := hide hown; have HGROW := hide hgrow; clear hown hgrow hat hnil)
            have hown : w3.ownsRow w2.heap.size 9 1 v' 0 [] := by simpa using HOWN.out
            obtain ⟨av, cv, hv⟩ := ownsRow_form hown
            subst hv
            have HB3 : Hid (Below w.heap.size w w3) := ((HBe.out _).2).grown HGROW.out (by simp; omega) (fun q hq => by simp [Value.ownBlock] at hq; omega)
            clear hown
            go_wp2_with fail
            go_ret2
            exact ⟨_, _, rfl, strs_none _ _ _ _ _, HB3.out⟩

end Go.Proofs.YtnfidecbbijpfaaDoor
