/- The program's readFile and TreeRead. -/
import Derived.Test.YtnfidecbbijpfaaDoorProg
import Derived.Test.YtnfidecbbijpfaaDoorCode
import Derived.Test.YtnfidecbbijpfaaDoorAtInd
namespace Go.Proofs.YtnfidecbbijpfaaDoor
open Go.RowKit

/-- The n bytes from a on, or as many as there are. -/
def readB (d : ByteArray) (a n : Int) : ByteArray := if a < d.size then (if n < d.size - a then d.extract a.toNat (a.toNat + n.toNat) else d.extract a.toNat d.size) else ⟨#[]⟩

theorem ext_part (d : ByteArray) (i j : Nat) (h : i + j ≤ d.size) : (d.extract i d.size).extract 0 j = d.extract i (i + j) := by
  rw [ByteArray.extract_extract]
  congr 1
  omega
theorem ext_rest (d : ByteArray) (i : Nat) : (d.extract i d.size).extract 0 (d.size - i) = d.extract i d.size := by
  rw [ByteArray.extract_extract]
  congr 1
  omega
theorem ext_none (d : ByteArray) (i : Nat) : d.extract i i = ⟨#[]⟩ := by
  apply ByteArray.ext
  simp

set_option maxHeartbeats 1000000 in
theorem fileRead (b : Nat) (mode : Int) (d : ByteArray) (a n : Int) (w : World) (hb : Blk w b #[.int .i64 mode, .string d] 82) (ha : 0 ≤ a) (hn : 0 ≤ n) (hd : d.size ≤ 24) :
    Calls Tryd.prog 33 #[.pointer (some ⟨b, 0, none⟩), .int .i64 a, .int .i64 n] w fun e w' => e = .returned (.string (readB d a n)) ∧ Below w.heap.size w w' := by
  have x1 : w.cell? ⟨b, 1, none⟩ = some (.string d) := hb.cell 1 _ rfl
  clear hb
  by_cases h1 : a < d.size
  · by_cases h2 : n < d.size - a
    · have HR : Hid (readB d a n = (d.extract a.toNat d.size).extract 0 n.toNat) := by
        show _ = _
        rw [readB, if_pos h1, if_pos h2, ext_part _ _ _ (by omega)]
      go_enter Tryd.func33, Tryd.ntmps33
      go_wp2_with fail
      go_region
      all_goals
        go_wp2_with fail
        go_ret
        exact ⟨by rw [HR.out]; rfl, (Below.refl _ _).drew⟩
    · have HR : Hid (readB d a n = (d.extract a.toNat d.size).extract 0 (d.size - a.toNat)) := by
        show _ = _
        rw [readB, if_pos h1, if_neg h2, ext_rest]
      have h3 : ¬ n < ((d.size - a.toNat : Nat) : Int) := by omega
      go_enter Tryd.func33, Tryd.ntmps33
      go_wp2_with fail
      go_region
      all_goals go_wp2_with fail
      all_goals
        go_ret
        refine ⟨?_, (Below.refl _ _).drew⟩
        rw [HR.out]
        first
          | rfl
          | (have e : n.toNat = d.size - a.toNat := by omega
             rw [e]
             rfl)
          | (simp; done)
  · have HR : Hid (readB d a n = ByteArray.empty) := by
      show _ = _
      rw [readB, if_neg h1]
      rfl
    go_enter Tryd.func33, Tryd.ntmps33
    go_wp2_with fail
    go_region
    all_goals go_wp2_with fail
    all_goals
      go_ret
      refine ⟨?_, (Below.refl _ _).drew⟩
      rw [HR.out]
      first
        | rfl
        | (simp; done)
        | (simp; omega)

/-- What TreeRead gives. -/
def readT (n : Nat) (t : T n) (path : List ByteArray) (a k : Int) : ByteArray × Int :=
  if okT n t = false then (⟨#[]⟩, 1) else if a < 0 ∨ k < 0 then (⟨#[]⟩, 2) else match atT n t path with
    | none => (⟨#[]⟩, 3)
    | some ⟨m, u⟩ => if (headT m u).1 then (⟨#[]⟩, 4) else (readB (headT m u).2.2 a k, 0)

def errV (c : Int) : Value := if c = 0 then .nilIface else .iface 64 (.agg #[.int .i64 c])

set_option maxHeartbeats 2000000 in
set_option maxRecDepth 100000 in
theorem readFile_any (n : Nat) (t : T n) (nv kv : Value) (pv : Value) (path : List ByteArray) (a k : Int) (w : World) (lo hi lo' hi' : Nat) (hrep : Rep w lo hi n t nv kv) (hpath : StrsAt w lo' hi' pv path)
    (hhi : hi ≤ w.heap.size) (hhi' : hi' ≤ w.heap.size) :
    Calls Tryd.prog 22 #[aggT n t nv kv, pv, .int .i64 a, .int .i64 k] w fun e w' => e = .returned (.tuple #[.string (readT n t path a k).1, errV (readT n t path a k).2]) ∧ Below w.heap.size w w' := by
  obtain ⟨va, vm, vc, ua, um, uc, rfl, rfl⟩ := hrep.slices
  obtain ⟨pa, pc, rfl⟩ : ∃ pa pc, pv = .slice pa path.length pc := by obtain ⟨pa, pc, h, _⟩ := hpath; exact ⟨pa, pc, h⟩
  have HRo : Hid (∀ W, Below w.heap.size w W → Calls Tryd.prog 31 #[.agg #[.bool (headT n t).1, .int .i64 (headT n t).2.1, .string (headT n t).2.2, .slice va vm vc, .slice ua um uc]] W fun e w' => ∃ po, e = .returned (.tuple #[.pointer po, .bool (okT n t)]) ∧ Below W.heap.size W w' ∧ (okT n t = true → ∃ b, po = some ⟨b, 0, none⟩ ∧ PRep w' W.heap.size w'.heap.size n t (.iface 60 (.pointer (some ⟨b, 0, none⟩))))) := fun W hW =>
    (rootOf_any n t _ _ W lo hi (Rep.keep hW hhi _ _ _ _ hrep) (Nat.le_trans hhi hW.size)).mono fun e w' ⟨po, h1, h2, h3⟩ => ⟨po, h1, h2, fun hok => by obtain ⟨b, hb, hd⟩ := h3 hok; exact ⟨b, hb, ok_dir hok hd⟩⟩
  have HPa : Hid (okT n t = true → ∀ W W0 b, Below w.heap.size w W → PRep W W0 W.heap.size n t (.iface 60 (.pointer (some ⟨b, 0, none⟩))) → Calls Tryd.prog 32 #[.iface 60 (.pointer (some ⟨b, 0, none⟩)), .slice pa path.length pc] W fun e w' => ∃ pv, e = .returned (.tuple #[pv, .bool (atT n t path).isSome]) ∧ w' = W ∧ (atT n t path = none → pv = .nilIface) ∧ ∀ (m : Nat) (u : T m), atT n t path = some ⟨m, u⟩ → PRep W W0 W.heap.size m u pv) := fun hok W W0 b hW hp =>
    partAt_any n t (allGood_of_ok n t hok) _ path _ W W0 W.heap.size lo' hi' hp (hpath.keep hW hhi')
  have HDs : Hid (okT n t = true → ∀ (m : Nat) (u : T (m + 1)), atT n t path = some ⟨m + 1, u⟩ → u.data.size ≤ 24) := fun hok m u e => by
    obtain ⟨h1, _⟩ := ok_parts hok
    obtain ⟨d', hd'⟩ := at_parts h1 e
    exact data_small hd'
  have HR1 : Hid (okT n t = false → readT n t path a k = (⟨#[]⟩, 1)) := fun h => by rw [readT, if_pos h]
  have HR2 : Hid (okT n t = true → (a < 0 ∨ k < 0) → readT n t path a k = (⟨#[]⟩, 2)) := fun h h2 => by rw [readT, if_neg (by rw [h]; decide), if_pos h2]
  have HR3 : Hid (okT n t = true → ¬ (a < 0 ∨ k < 0) → atT n t path = none → readT n t path a k = (⟨#[]⟩, 3)) := fun h h2 h3 => by rw [readT, if_neg (by rw [h]; decide), if_neg h2, h3]
  have HR4 : Hid (okT n t = true → ¬ (a < 0 ∨ k < 0) → ∀ (m : Nat) (u : T (m + 1)), atT n t path = some ⟨m + 1, u⟩ → readT n t path a k = if u.dir then (⟨#[]⟩, 4) else (readB u.data a k, 0)) := fun h h2 m u h3 => by rw [readT, if_neg (by rw [h]; decide), if_neg h2, h3]; rfl
  clear hrep hpath
  generalize readT n t path a k = res at HR1 HR2 HR3 HR4 ⊢
  show Calls Tryd.prog 22 #[.agg #[.bool (headT n t).1, .int .i64 (headT n t).2.1, .string (headT n t).2.2, .slice va vm vc, .slice ua um uc], .slice pa path.length pc, .int .i64 a, .int .i64 k] w _
  generalize atT n t path = at1 at HPa HDs HR3 HR4 ⊢
  generalize okT n t = ok at HRo HPa HDs HR1 HR2 HR3 HR4 ⊢
  generalize (headT n t).1 = hd at HRo ⊢
  generalize (headT n t).2.1 = hm at HRo ⊢
  generalize (headT n t).2.2 = hda at HRo ⊢
  go_enter Tryd.func22, Tryd.ntmps22
  go_wp2_with fail
  generalize hW : (w.alloc (Obj.cells #[.bool hd, .int .i64 hm, .string hda, .slice va vm vc, .slice ua um uc] 32)) = W
  have HW : Hid (Below w.heap.size w W) := by
    subst hW
    exact (Below.refl _ _).alloc (Nat.le_refl _) _
  clear hW
  refine (HRo.out W HW.out).mono ?_
  rintro e w1 ⟨po, rfl, hB1, hD⟩
  have HD := hide hD
  have HBw1 : Hid (Below w.heap.size w w1) := HW.out.trans (hB1.mono HW.out.size)
  clear hB1 hD
  cases ok with
  | false =>
    have hr := HR1.out (by first | rfl | trivial)
    subst hr
    go_wp2_with fail
    go_ret2
    exact ⟨rfl, HBw1.out⟩
  | true =>
    obtain ⟨b, rfl, hP⟩ := HD.out (by first | rfl | trivial)
    have HP := hide hP
    clear hP HD
    by_cases hneg : a < 0 ∨ k < 0
    · have hr := HR2.out (by first | rfl | trivial) hneg
      subst hr
      rcases hneg with hneg | hneg
      · go_wp2_with fail
        all_goals
          go_ret2
          exact ⟨rfl, HBw1.out⟩
      · by_cases ha : a < 0
        · go_wp2_with fail
          all_goals
            go_ret2
            exact ⟨rfl, HBw1.out⟩
        · go_wp2_with fail
          all_goals
            go_ret2
            exact ⟨rfl, HBw1.out⟩
    · have ha : 0 ≤ a := by omega
      have hk : 0 ≤ k := by omega
      have HNeg := hide hneg
      clear hneg
      go_wp2_with fail
      refine (HPa.out (by first | rfl | trivial) w1 _ b HBw1.out HP.out).mono ?_
      rintro e w2 ⟨pv, rfl, rfl, hno, hyes⟩
      have HNo := hide hno
      have HYes := hide hyes
      clear hno hyes
      cases hat : at1 with
      | none =>
        have hpv := HNo.out hat
        subst hpv
        have hr := HR3.out (by first | rfl | trivial) HNeg.out hat
        subst hr
        subst hat
        go_wp2_with fail
        go_ret2
        exact ⟨rfl, HBw1.out⟩
      | some x =>
        obtain ⟨m, u⟩ := x
        have hP2 := HYes.out m u hat
        cases m with
        | zero => exact hP2.elim
        | succ m =>
        have hr := HR4.out (by first | rfl | trivial) HNeg.out m u hat
        have hds := HDs.out (by first | rfl | trivial) m u hat
        rcases hP2 with ⟨hd0, fb, rfl, _, _, hb⟩ | ⟨hd0, db, rfl, _⟩
        · rw [hd0, if_neg (by decide)] at hr
          subst hr
          have HRd : Hid (Calls Tryd.prog 33 #[.pointer (some ⟨fb, 0, none⟩), .int .i64 a, .int .i64 k] w2 fun e w' => e = .returned (.string (readB u.data a k)) ∧ Below w2.heap.size w2 w') := fileRead fb u.mode u.data a k w2 hb ha hk hds
          clear hb hds hd0 HNo HYes HR1 HR2 HR3 HR4 HDs HPa
          subst hat
          have t1 := ta_ff
          go_wp2_with fail
          refine HRd.out.mono ?_
          rintro e w3 ⟨rfl, hB3⟩
          have HB3 : Hid (Below w.heap.size w w3) := HBw1.out.trans (hB3.mono HBw1.out.size)
          clear hB3
          go_wp2_with fail
          go_ret2
          exact ⟨rfl, HB3.out⟩
        · rw [hd0, if_pos rfl] at hr
          subst hr
          clear hds hd0 HNo HYes HR1 HR2 HR3 HR4 HDs HPa
          subst hat
          have t1 := ta_df
          go_wp2_with fail
          go_ret2
          exact ⟨rfl, HBw1.out⟩

end Go.Proofs.YtnfidecbbijpfaaDoor
