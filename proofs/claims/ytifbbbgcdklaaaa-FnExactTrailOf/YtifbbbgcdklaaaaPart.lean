/- The program's intake of one part: a file is taken as it is, a directory by 'dir'. -/
import Derived.Test.YtifbbbgcdklaaaaProg
import Derived.Test.YtifbbbgcdklaaaaPRep
namespace Go.Proofs.Ytifbbbgcdklaaaa
open Go.RowKit

/-- A part is taken: it is ok at its depth, and there is room for all below it. -/
def takeB (n : Nat) (t : T n) (d room : Int) : Bool := partsB n t d && decide ((countT n t : Int) ≤ room)

def DirC (n : Nat) : Prop := ∀ (t : T n), (headT n t).1 = true → ∀ (nv kv : Value) (d room : Int) (ib : Nat) (w : World) (lo hi : Nat), Rep w lo hi n t nv kv → hi ≤ ib → Blk w ib #[.int .i64 room] 69 → 0 ≤ d → d ≤ 4 → 0 ≤ room → room ≤ 30 →
  Calls Try.prog 38 #[.pointer (some ⟨ib, 0, none⟩), aggT n t nv kv, .int .i64 d] w fun e w' => ∃ po, e = .returned (.tuple #[.pointer po, .bool (takeB n t d room)]) ∧ Aside ib w w' ∧
    (takeB n t d room = true → Blk w' ib #[.int .i64 (room - countT n t)] 69 ∧ ∃ b, po = some ⟨b, 0, none⟩ ∧ DRepT w' w.heap.size w'.heap.size n t b)

def PartC (n : Nat) : Prop := ∀ (t : T n) (nv kv : Value) (d room : Int) (ib : Nat) (w : World) (lo hi : Nat), Rep w lo hi n t nv kv → hi ≤ ib → Blk w ib #[.int .i64 room] 69 → 0 ≤ d → d ≤ 5 → 0 ≤ room → room ≤ 30 →
  Calls Try.prog 48 #[.pointer (some ⟨ib, 0, none⟩), aggT n t nv kv, .int .i64 d] w fun e w' => ∃ pv, e = .returned (.tuple #[pv, .bool (takeB n t d room)]) ∧ Aside ib w w' ∧
    (takeB n t d room = true → Blk w' ib #[.int .i64 (room - countT n t)] 69 ∧ PRep w' w.heap.size w'.heap.size n t pv)

theorem makeIface_dir : (Try.prog.info? 55).isSome = true := by kernel_rfl

/-- Of a file the parts are ok just if it is. -/
theorem takeB_file (n : Nat) (mode : Int) (data : ByteArray) (names : List ByteArray) (kids : List (T n)) (d room : Int) (hd : d ≤ 4) (hr : 0 ≤ room) :
    takeB (n + 1) ⟨false, mode, data, names, kids⟩ d room = (modeB mode && decide ((data.size : Int) ≤ 24) && ((names.length : Int) == 0) && ((kids.length : Int) == 0)) := by
  show (plainB false mode data names kids.length && decide (d ≤ 4) && kids.all (fun k => partsB n k (d + 1)) && decide (((kids.length + (kids.map (countT n)).sum : Nat) : Int) ≤ room)) = _
  rw [plainB, Bool.eq_iff_iff]
  simp only [Bool.and_eq_true, decide_eq_true_eq, beq_iff_eq, Bool.false_eq_true, if_false]
  constructor
  · rintro ⟨⟨⟨⟨⟨h1, h2⟩, h3, h4⟩, _⟩, _⟩, _⟩
    exact ⟨⟨⟨h1, by omega⟩, by omega⟩, by omega⟩
  · rintro ⟨⟨⟨h1, h2⟩, h3⟩, h4⟩
    have hk : kids = [] := List.eq_nil_of_length_eq_zero (by omega)
    subst hk
    refine ⟨⟨⟨⟨⟨h1, ?_⟩, by omega, by omega⟩, hd⟩, rfl⟩, ?_⟩
    · show names.length = 0; omega
    · simpa using hr

set_option maxHeartbeats 2000000 in
theorem part_of_dir (n : Nat) (ih : DirC n) : PartC n := by
  intro t nv kv d room ib w lo hi hrep hhi hib h0 h5 hr0 hr30
  cases n with
  | zero => exact Empty.elim (show Empty from t)
  | succ n =>
  have HIB : Hid (Blk w ib #[.int .i64 room] 69) := hib
  have HAs : Hid (∀ o, Aside ib w (w.alloc o)) := fun o => (Aside.refl _ _).alloc o
  by_cases h4 : 4 < d
  · have HT : Hid (takeB (n + 1) t d room = false) := by show _ = _; unfold takeB partsB; rw [show decide (d ≤ 4) = false by simp; omega]; simp
    clear hib
    show Calls Try.prog 48 #[.pointer (some ⟨ib, 0, none⟩), .agg #[.bool t.dir, .int .i64 t.mode, .string t.data, nv, kv], .int .i64 d] w _
    rw [HT.out]
    go_enter Try.func48, Try.ntmps48
    go_wp2_with fail
    go_ret2
    exact ⟨_, rfl, HAs.out _, fun h => by cases h⟩
  · obtain ⟨dir, mode, data, names, kids⟩ := t
    have hslices := hrep.slices
    have HR : Hid (Rep w lo hi (n + 1) ⟨dir, mode, data, names, kids⟩ nv kv) := hrep
    cases dir with
    | true =>
      have HC : Hid (∀ (w1 : World), Aside ib w w1 → Blk w1 ib #[.int .i64 room] 69 → Calls Try.prog 38 #[.pointer (some ⟨ib, 0, none⟩), .agg #[.bool true, .int .i64 mode, .string data, nv, kv], .int .i64 d] w1 fun e w' => ∃ po, e = .returned (.tuple #[.pointer po, .bool (takeB (n + 1) ⟨true, mode, data, names, kids⟩ d room)]) ∧ Aside ib w1 w' ∧
        (takeB (n + 1) ⟨true, mode, data, names, kids⟩ d room = true → Blk w' ib #[.int .i64 (room - countT (n + 1) ⟨true, mode, data, names, kids⟩)] 69 ∧ ∃ b, po = some ⟨b, 0, none⟩ ∧ DRepT w' w1.heap.size w'.heap.size (n + 1) ⟨true, mode, data, names, kids⟩ b)) :=
        fun w1 ha hb => ih ⟨true, mode, data, names, kids⟩ rfl nv kv d room ib w1 lo hi (Rep.keep (ha.toBelow (B := hi) hhi (by have := hib.lt; omega)) (Nat.le_refl _) _ _ _ _ HR.out) hhi hb h0 (by omega) hr0 hr30
      clear ih hrep hslices hib
      generalize takeB (n + 1) ⟨true, mode, data, names, kids⟩ d room = tb at HC ⊢
      show Calls Try.prog 48 #[.pointer (some ⟨ib, 0, none⟩), .agg #[.bool true, .int .i64 mode, .string data, nv, kv], .int .i64 d] w _
      go_enter Try.func48, Try.ntmps48
      go_wp2_with fail
      refine (HC.out _ (HAs.out _) (HIB.out.alloc _)).mono ?_
      rintro e w1 ⟨po, rfl, ha1, hok⟩
      have HA1 : Hid (Aside ib w w1) := (HAs.out _).trans ha1
      have HOK : Hid (tb = true → Blk w1 ib #[.int .i64 (room - countT (n + 1) ⟨true, mode, data, names, kids⟩)] 69 ∧ ∃ b, po = some ⟨b, 0, none⟩ ∧ DRepT w1 w.heap.size w1.heap.size (n + 1) ⟨true, mode, data, names, kids⟩ b) := fun h => by
        obtain ⟨g1, b, g2, g3⟩ := hok h
        exact ⟨g1, b, g2, DRep.wide g3 (PRep.wide (by simp) (Nat.le_refl _) n) (by simp) (Nat.le_refl _)⟩
      clear ha1 hok
      go_wp2_with fail
      go_ret2
      refine ⟨_, rfl, HA1.out, fun h => ?_⟩
      obtain ⟨g1, b, rfl, g3⟩ := HOK.out h
      exact ⟨g1, .inr ⟨rfl, b, rfl, g3⟩⟩
    | false =>
      clear ih
      obtain ⟨xa, xm, xc, ya, ym, yc, rfl, rfl⟩ := hslices
      obtain ⟨_, _, ⟨a1, c1, hn1, hn2, _⟩, ⟨a2, c2, hk1, hk2, _⟩⟩ := hrep
      simp only [Value.slice.injEq] at hn1 hk1
      obtain ⟨rfl, rfl, rfl⟩ := hn1
      obtain ⟨rfl, rfl, rfl⟩ := hk1
      have hF := takeB_file n mode data names kids d room (by omega) hr0
      show Calls Try.prog 48 #[.pointer (some ⟨ib, 0, none⟩), .agg #[.bool false, .int .i64 mode, .string data, .slice xa names.length xc, .slice ya kids.length yc], .int .i64 d] w _
      generalize takeB (n + 1) ⟨false, mode, data, names, kids⟩ d room = tb at hF ⊢
      have HF : Hid (tb = (modeB mode && decide ((data.size : Int) ≤ 24) && ((names.length : Int) == 0) && ((kids.length : Int) == 0))) := hF
      have HK : Hid (tb = true → kids = []) := fun h => by
        rw [hF] at h
        simp only [Bool.and_eq_true, beq_iff_eq] at h
        exact List.eq_nil_of_length_eq_zero (by omega)
      have HB : Hid (hi ≤ ib ∧ Blk w ib #[.int .i64 room] 69) := ⟨hhi, hib⟩
      clear hF hib hn2 hk2
      have HA2 : Hid (∀ o1 o2, Aside ib w ((w.alloc o1).alloc o2)) := fun o1 o2 => ((Aside.refl _ _).alloc o1).alloc o2
      cases hm : (decide (0 ≤ mode) && decide (mode ≤ 7)) with
      | false =>
        have HM : Hid ((decide (0 ≤ mode) && decide (mode ≤ 7)) = false) := hm
        have HTB : Hid (tb = false) := by show _ = _; rw [HF.out, modeB, hm]; rfl
        clear hm
        go_enter Try.func48, Try.ntmps48
        go_wp2_with fail
        refine (isMode_any _ _).mono ?_
        rw [HM.out]
        rintro e w1 ⟨rfl, rfl⟩
        go_wp2_with fail
        go_ret2
        refine ⟨_, by rw [HTB.out]; rfl, HA2.out _ _, fun h => ?_⟩
        rw [HTB.out] at h
        cases h
      | true =>
        have HM : Hid ((decide (0 ≤ mode) && decide (mode ≤ 7)) = true) := hm
        clear hm
        cases h24 : decide ((data.size : Int) ≤ 24) with
        | false =>
          have HTB : Hid (tb = false) := by show _ = _; rw [HF.out, modeB, HM.out, h24]; rfl
          go_enter Try.func48, Try.ntmps48
          go_wp2_with fail
          refine (isMode_any _ _).mono ?_
          rw [HM.out]
          rintro e w1 ⟨rfl, rfl⟩
          go_wp2_with fail
          go_ret2
          refine ⟨_, by rw [HTB.out]; rfl, HA2.out _ _, fun h => ?_⟩
          rw [HTB.out] at h
          cases h
        | true =>
          cases hnn : ((names.length : Int) == 0) with
          | false =>
            have HTB : Hid (tb = false) := by show _ = _; rw [HF.out, modeB, HM.out, h24, hnn]; rfl
            go_enter Try.func48, Try.ntmps48
            go_wp2_with fail
            refine (isMode_any _ _).mono ?_
            rw [HM.out]
            rintro e w1 ⟨rfl, rfl⟩
            go_wp2_with fail
            go_ret2
            refine ⟨_, by rw [HTB.out]; rfl, HA2.out _ _, fun h => ?_⟩
            rw [HTB.out] at h
            cases h
          | true =>
            cases hkk : ((kids.length : Int) == 0) with
            | false =>
              have HTB : Hid (tb = false) := by show _ = _; rw [HF.out, modeB, HM.out, h24, hnn, hkk]; rfl
              go_enter Try.func48, Try.ntmps48
              go_wp2_with fail
              refine (isMode_any _ _).mono ?_
              rw [HM.out]
              rintro e w1 ⟨rfl, rfl⟩
              go_wp2_with fail
              go_ret2
              refine ⟨_, by rw [HTB.out]; rfl, HA2.out _ _, fun h => ?_⟩
              rw [HTB.out] at h
              cases h
            | true =>
              have HTB : Hid (tb = true) := by show _ = _; rw [HF.out, modeB, HM.out, h24, hnn, hkk]; rfl
              go_enter Try.func48, Try.ntmps48
              go_wp2_with fail
              refine (isMode_any _ _).mono ?_
              rw [HM.out]
              rintro e w1 ⟨rfl, rfl⟩
              go_wp2_with fail
              go_ret2
              refine ⟨_, by rw [HTB.out]; rfl, HA2.out _ _, fun h => ?_⟩
              have hk := HK.out h
              subst hk
              refine ⟨?_, .inl ⟨rfl, w.heap.size + 1, rfl, by omega, by simp, ?_⟩⟩
              · have := (HB.out.2.alloc (Obj.cells #[.bool false, .int .i64 mode, .string data, .slice xa names.length xc, .slice ya ([] : List (T n)).length yc] 34)).alloc (Obj.cells #[.int .i64 mode, .string data] 88)
                rw [show room - (countT (n + 1) ⟨false, mode, data, names, []⟩ : Int) = room by show room - ((0 + 0 : Nat) : Int) = room; omega]
                exact this
              · have := Blk.new (w.alloc (Obj.cells #[.bool false, .int .i64 mode, .string data, .slice xa names.length xc, .slice ya ([] : List (T n)).length yc] 34)) #[.int .i64 mode, .string data] 88
                simpa using this

end Go.Proofs.Ytifbbbgcdklaaaa
