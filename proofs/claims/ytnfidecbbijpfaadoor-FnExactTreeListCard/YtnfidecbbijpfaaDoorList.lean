/- The program's listDir and TreeList. -/
import Derived.Test.YtnfidecbbijpfaaDoorProg
import Derived.Test.YtnfidecbbijpfaaDoorReadS
namespace Go.Proofs.YtnfidecbbijpfaaDoor
open Go.RowKit

def namesOf : (n : Nat) → T n → List ByteArray
  | 0, _ => []
  | _ + 1, t => t.names

/-- What TreeList gives. -/
def listT (n : Nat) (t : T n) (path : List ByteArray) : List ByteArray × Int :=
  if okT n t = false then ([], 1) else match atT n t path with
    | none => ([], 3)
    | some ⟨m, u⟩ => if (headT m u).1 then (namesOf m u, 0) else ([], 4)

/-- A list of one's own, in blocks from lo on. -/
def NewS (w : World) (lo : Nat) (a : Option Addr) (c : Nat) (l : List ByteArray) : Prop := ∃ b, OwnStrs w lo w.heap.size b (.slice a l.length c) l
theorem newS_nil (w : World) (lo : Nat) : NewS w lo none 0 [] := ⟨0, ownStrs_nil _ _ _ _ _ _⟩

set_option maxHeartbeats 2000000 in
set_option maxRecDepth 100000 in
theorem listDir_any (n : Nat) (t : T n) (nv kv : Value) (pv : Value) (path : List ByteArray) (w : World) (lo hi lo' hi' : Nat) (hrep : Rep w lo hi n t nv kv) (hpath : StrsAt w lo' hi' pv path)
    (hhi : hi ≤ w.heap.size) (hhi' : hi' ≤ w.heap.size) :
    Calls Tryd.prog 25 #[aggT n t nv kv, pv] w fun e w' => ∃ a c, e = .returned (.tuple #[.slice a (listT n t path).1.length c, errV (listT n t path).2]) ∧ NewS w' w.heap.size a c (listT n t path).1 ∧ Below w.heap.size w w' := by
  obtain ⟨va, vm, vc, ua, um, uc, rfl, rfl⟩ := hrep.slices
  obtain ⟨pa, pc, rfl⟩ : ∃ pa pc, pv = .slice pa path.length pc := by obtain ⟨pa, pc, h, _⟩ := hpath; exact ⟨pa, pc, h⟩
  have HRo : Hid (∀ W, Below w.heap.size w W → Calls Tryd.prog 31 #[.agg #[.bool (headT n t).1, .int .i64 (headT n t).2.1, .string (headT n t).2.2, .slice va vm vc, .slice ua um uc]] W fun e w' => ∃ po, e = .returned (.tuple #[.pointer po, .bool (okT n t)]) ∧ Below W.heap.size W w' ∧ (okT n t = true → ∃ b, po = some ⟨b, 0, none⟩ ∧ PRep w' W.heap.size w'.heap.size n t (.iface 60 (.pointer (some ⟨b, 0, none⟩))))) := fun W hW =>
    (rootOf_any n t _ _ W lo hi (Rep.keep hW hhi _ _ _ _ hrep) (Nat.le_trans hhi hW.size)).mono fun e w' ⟨po, h1, h2, h3⟩ => ⟨po, h1, h2, fun hok => by obtain ⟨b, hb, hd⟩ := h3 hok; exact ⟨b, hb, ok_dir hok hd⟩⟩
  have HPa : Hid (okT n t = true → ∀ W W0 b, Below w.heap.size w W → PRep W W0 W.heap.size n t (.iface 60 (.pointer (some ⟨b, 0, none⟩))) → Calls Tryd.prog 32 #[.iface 60 (.pointer (some ⟨b, 0, none⟩)), .slice pa path.length pc] W fun e w' => ∃ pv, e = .returned (.tuple #[pv, .bool (atT n t path).isSome]) ∧ w' = W ∧ (atT n t path = none → pv = .nilIface) ∧ ∀ (m : Nat) (u : T m), atT n t path = some ⟨m, u⟩ → PRep W W0 W.heap.size m u pv) := fun hok W W0 b hW hp =>
    partAt_any n t (allGood_of_ok n t hok) _ path _ W W0 W.heap.size lo' hi' hp (hpath.keep hW hhi')
  have HDs : Hid (okT n t = true → ∀ (m : Nat) (u : T (m + 1)), atT n t path = some ⟨m + 1, u⟩ → u.names.length ≤ 1048576) := fun hok m u e =>
    (atT_ind AllGood (fun _ _ h i hi => h.2 i hi) n t path (m + 1) u (allGood_of_ok n t hok) e).1.small
  have HR1 : Hid (okT n t = false → listT n t path = ([], 1)) := fun h => by rw [listT, if_pos h]
  have HR3 : Hid (okT n t = true → atT n t path = none → listT n t path = ([], 3)) := fun h h3 => by rw [listT, if_neg (by rw [h]; decide), h3]
  have HR4 : Hid (okT n t = true → ∀ (m : Nat) (u : T (m + 1)), atT n t path = some ⟨m + 1, u⟩ → listT n t path = if u.dir then (u.names, 0) else ([], 4)) := fun h m u h3 => by rw [listT, if_neg (by rw [h]; decide), h3]; rfl
  clear hrep hpath
  generalize listT n t path = res at HR1 HR3 HR4 ⊢
  show Calls Tryd.prog 25 #[.agg #[.bool (headT n t).1, .int .i64 (headT n t).2.1, .string (headT n t).2.2, .slice va vm vc, .slice ua um uc], .slice pa path.length pc] w _
  generalize atT n t path = at1 at HPa HDs HR3 HR4 ⊢
  generalize okT n t = ok at HRo HPa HDs HR1 HR3 HR4 ⊢
  generalize (headT n t).1 = hd at HRo ⊢
  generalize (headT n t).2.1 = hm at HRo ⊢
  generalize (headT n t).2.2 = hda at HRo ⊢
  go_enter Tryd.func25, Tryd.ntmps25
  go_wp2_with fail
  generalize hW : (w.alloc (Obj.cells #[.bool hd, .int .i64 hm, .string hda, .slice va vm vc, .slice ua um uc] 32)) = W
  have HW : Hid (Below w.heap.size w W) := by
    subst hW
    exact (Below.refl _ _).alloc (Nat.le_refl _) _
  clear hW
  refine (HRo.out W HW.out).mono ?_
  rintro e w1 ⟨po, rfl, hB1, hD⟩
  have HD := hide hD
  have HBw1 : Hid (Below w.heap.size w w1) := HW.out.trans (hB1.mono HW.out.size)
  clear hB1 hD
  cases ok with
  | false =>
    have hr := HR1.out (by first | rfl | trivial)
    subst hr
    go_wp2_with fail
    go_ret2
    exact ⟨none, 0, rfl, newS_nil _ _, HBw1.out⟩
  | true =>
    obtain ⟨b, rfl, hP⟩ := HD.out (by first | rfl | trivial)
    have HP := hide hP
    clear hP HD
    go_wp2_with fail
    refine (HPa.out (by first | rfl | trivial) w1 _ b HBw1.out HP.out).mono ?_
    rintro e w2 ⟨pv, rfl, rfl, hno, hyes⟩
    have HNo := hide hno
    have HYes := hide hyes
    clear hno hyes
    cases hat : at1 with
    | none =>
      have hpv := HNo.out hat
      subst hpv
      have hr := HR3.out (by first | rfl | trivial) hat
      subst hr
      subst hat
      go_wp2_with fail
      go_ret2
      exact ⟨none, 0, rfl, newS_nil _ _, HBw1.out⟩
    | some x =>
      obtain ⟨m, u⟩ := x
      have hP2 := HYes.out m u hat
      cases m with
      | zero => exact hP2.elim
      | succ m =>
      have hr := HR4.out (by first | rfl | trivial) m u hat
      have hds := HDs.out (by first | rfl | trivial) m u hat
      rcases hP2 with ⟨hd0, fb, rfl, _, _, hb⟩ | ⟨hd0, db, rfl, _, _, nvp, kvp, hb, hNm, _⟩
      · rw [hd0, if_neg (by decide)] at hr
        subst hr
        clear hb hds hd0 HNo HYes HR1 HR3 HR4 HDs HPa
        subst hat
        have t1 := ta_fd
        go_wp2_with fail
        go_ret2
        exact ⟨none, 0, rfl, newS_nil _ _, HBw1.out⟩
      · rw [hd0, if_pos rfl] at hr
        subst hr
        have HCp : Hid (Calls Tryd.prog 35 #[nvp] w2 fun e w' => ∃ v', e = .returned v' ∧ OwnStrs w' w2.heap.size w'.heap.size w2.heap.size v' u.names ∧ Below w2.heap.size w2 w') := copyNames_any u.names nvp w2 _ _ hNm hds
        have x1 : w2.cell? ⟨db, 1, none⟩ = some nvp := hb.cell 1 _ rfl
        obtain ⟨na, nc, rfl⟩ : ∃ na nc, nvp = .slice na u.names.length nc := by obtain ⟨na, nc, h, _⟩ := hNm; exact ⟨na, nc, h⟩
        clear hb hNm hds hd0 HNo HYes HR1 HR3 HR4 HDs HPa
        subst hat
        have t1 := ta_dd
        go_wp2_with fail
        refine HCp.out.mono ?_
        rintro e w3 ⟨v', rfl, hO3, hB3⟩
        obtain ⟨a3, c3, rfl⟩ : ∃ a c, v' = .slice a u.names.length c := by obtain ⟨⟨a, c, h, _⟩, _⟩ := hO3; exact ⟨a, c, h⟩
        have HO3 := hide hO3
        have HB3 : Hid (Below w.heap.size w w3) := HBw1.out.trans (hB3.mono HBw1.out.size)
        clear hB3 hO3
        go_wp2_with fail
        go_ret2
        obtain ⟨p1, p2, p3, p4, p5⟩ := HO3.out
        exact ⟨a3, c3, rfl, ⟨_, p1, p2, p3, fun h0 => ⟨by have := p4 h0; have := HBw1.out.size; omega, (p4 h0).2⟩, p5⟩, HB3.out⟩

set_option maxHeartbeats 2000000 in
theorem implTreeList_any (n : Nat) (t : T n) (nv kv : Value) (pv : Value) (path : List ByteArray) (w : World) (lo hi lo' hi' : Nat) (hrep : Rep w lo hi n t nv kv) (hpath : StrsAt w lo' hi' pv path)
    (hhi : hi ≤ w.heap.size) (hhi' : hi' ≤ w.heap.size) (hg : Laid0 w) :
    Calls Tryd.prog 14 #[aggT n t nv kv, pv] w fun e w' => ∃ a c hi2, e = .returned (.tuple #[.slice a (listT n t path).1.length c, .int .i64 (listT n t path).2]) ∧ (∃ b, OwnStrs w' w.heap.size hi2 b (.slice a (listT n t path).1.length c) (listT n t path).1) ∧ hi2 ≤ w'.heap.size ∧ Below w.heap.size w w' := by
  obtain ⟨va, vm, vc, ua, um, uc, rfl, rfl⟩ := hrep.slices
  obtain ⟨pa, pc, rfl⟩ : ∃ pa pc, pv = .slice pa path.length pc := by obtain ⟨pa, pc, h, _⟩ := hpath; exact ⟨pa, pc, h⟩
  have HRe : Hid (∀ W, Below w.heap.size w W → Calls Tryd.prog 25 #[.agg #[.bool (headT n t).1, .int .i64 (headT n t).2.1, .string (headT n t).2.2, .slice va vm vc, .slice ua um uc], .slice pa path.length pc] W fun e w' => ∃ a c, e = .returned (.tuple #[.slice a (listT n t path).1.length c, errV (listT n t path).2]) ∧ NewS w' W.heap.size a c (listT n t path).1 ∧ Below W.heap.size W w') := fun W hW =>
    listDir_any n t _ _ _ path W lo hi lo' hi' (Rep.keep hW hhi _ _ _ _ hrep) (hpath.keep hW hhi') (Nat.le_trans hhi hW.size) (Nat.le_trans hhi' hW.size)
  have HCo : Hid (∀ W, Below w.heap.size w W → Calls Tryd.prog 23 #[errV (listT n t path).2] W fun e w' => e = .returned (.int .i64 (listT n t path).2) ∧ Below W.heap.size W w') := fun W hW =>
    codeOf_err _ W (hg.below hW hg.lt)
  clear hrep hpath hg
  show Calls Tryd.prog 14 #[.agg #[.bool (headT n t).1, .int .i64 (headT n t).2.1, .string (headT n t).2.2, .slice va vm vc, .slice ua um uc], .slice pa path.length pc] w _
  generalize listT n t path = res at HRe HCo ⊢
  obtain ⟨s, c⟩ := res
  obtain ⟨ev, hev⟩ : ∃ ev, errV c = ev := ⟨_, rfl⟩
  simp only [hev] at HRe HCo
  have hform : ev = .nilIface ∨ ev = .iface 64 (.agg #[.int .i64 c]) := by
    rw [← hev, errV]
    split
    · exact .inl rfl
    · exact .inr rfl
  clear hev
  generalize (headT n t).1 = hd at HRe ⊢
  generalize (headT n t).2.1 = hm at HRe ⊢
  generalize (headT n t).2.2 = hda at HRe ⊢
  rcases hform with rfl | rfl
  all_goals
    go_enter Tryd.func14, Tryd.ntmps14
    go_wp2_with fail
    refine (HRe.out _ ((Below.refl _ _).alloc (Nat.le_refl _) _)).mono ?_
    rintro e w1 ⟨a1, c1, rfl, hO1, hB1⟩
    have HO1 := hide hO1
    have HB1 : Hid (Below w.heap.size w w1) := Below.trans ((Below.refl _ _).alloc (Nat.le_refl _) _) (hB1.mono (by simp))
    clear hB1 hO1
    go_wp2_with fail
    refine (HCo.out w1 HB1.out).mono ?_
    rintro e w2 ⟨rfl, hB2⟩
    have HB2 : Hid (Below w.heap.size w w2 ∧ Below w1.heap.size w1 w2) := ⟨HB1.out.trans (hB2.mono HB1.out.size), hB2⟩
    clear hB2
    go_wp2_with fail
    go_ret2
    obtain ⟨b, hO⟩ := HO1.out
    obtain ⟨p1, p2, p3, p4, p5⟩ := hO.same (sameIn_below HB2.out.2 (Nat.le_refl _))
    exact ⟨a1, c1, w1.heap.size, rfl, ⟨b, p1, p2, p3, fun h0 => ⟨by have := p4 h0; simp at this; omega, (p4 h0).2⟩, p5⟩, HB2.out.2.size, HB2.out.1⟩

end Go.Proofs.YtnfidecbbijpfaaDoor
