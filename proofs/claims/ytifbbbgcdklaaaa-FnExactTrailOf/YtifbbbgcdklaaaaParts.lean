/- The specification's own TreeOk over a whole tree: l1Parts, l1Count, TreeOk. -/
import Derived.Test.YtifbbbgcdklaaaaProg
import Derived.Test.YtifbbbgcdklaaaaSpec
namespace Go.Proofs.Ytifbbbgcdklaaaa
open Go.RowKit

/-- All parts are ok, none too deep. -/
def partsB : (n : Nat) → T n → Int → Bool
  | 0, _, _ => false
  | n + 1, t, d => plainB t.dir t.mode t.data t.names t.kids.length && decide (d ≤ 4) && t.kids.all (fun k => partsB n k (d + 1))

def countT : (n : Nat) → T n → Nat
  | 0, _ => 0
  | n + 1, t => t.kids.length + (t.kids.map (countT n)).sum

def PartsC (n : Nat) : Prop := ∀ (t : T n) (nv kv : Value) (d : Int) (w : World) (lo hi : Nat), Rep w lo hi n t nv kv → hi ≤ w.heap.size → 0 ≤ d → d ≤ 5 →
  Calls Try.prog 33 #[aggT n t nv kv, .int .i64 d] w fun e w' => e = .returned (.bool (partsB n t d)) ∧ Below w.heap.size w w'

theorem all_drop {α : Type} (p : α → Bool) (l : List α) (k : Nat) (h : k < l.length) : (l.drop k).all p = (p l[k] && (l.drop (k + 1)).all p) := by
  rw [List.drop_eq_getElem_cons h, List.all_cons]

set_option maxHeartbeats 2000000 in
theorem l1Parts_succ (n : Nat) (ih : PartsC n) : PartsC (n + 1) := by
  intro t nv kv d w lo hi hrep hhi h0 h5
  obtain ⟨hd, hm, hN, hK⟩ := hrep
  obtain ⟨dir, mode, data, names, kids⟩ := t
  have hd : data.size ≤ maxLen := hd
  have hN : StrsAt w lo hi nv names := hN
  obtain ⟨a, cap, rfl, hl, hc⟩ := hK
  have hl : kids.length ≤ maxLen := hl
  have HD : Hid (partsB (n + 1) ⟨dir, mode, data, names, kids⟩ d = (plainB dir mode data names kids.length && decide (d ≤ 4) && kids.all (fun k => partsB n k (d + 1)))) := rfl
  show Calls Try.prog 33 #[.agg #[.bool dir, .int .i64 mode, .string data, nv, .slice a kids.length cap], .int .i64 d] w _
  have HI : Hid (PartsC n) := ih
  have HN : Hid (StrsAt w lo hi nv names) := hN
  have HDS : Hid (data.size ≤ maxLen) := hd
  clear ih hN hd hm
  have HL : Hid (kids.length ≤ maxLen) := hl
  unfold maxLen at hl
  have HA : Hid (∀ o, Below w.heap.size w (w.alloc o)) := fun o => (Below.refl _ _).alloc (Nat.le_refl _) o
  go_enter Try.func33, Try.ntmps33
  go_wp2_with fail
  generalize hW : w.alloc (Obj.cells #[.bool dir, .int .i64 mode, .string data, nv, .slice a kids.length cap] 34) = W
  have HW : Hid (Below w.heap.size w W ∧ W.heap.size = w.heap.size + 1 ∧ Blk W w.heap.size #[.bool dir, .int .i64 mode, .string data, nv, .slice a kids.length cap] 34) := by
    subst hW
    exact ⟨HA.out _, by simp, Blk.new w _ _⟩
  clear hW HA
  refine (l1Plain_any dir mode data names nv a kids.length cap W lo hi HDS.out (HN.out.keep HW.out.1 hhi) (by have := HW.out.2.1; omega) HL.out).mono ?_
  rintro e w1 ⟨rfl, hB1⟩
  have HB1 : Hid (Below W.heap.size W w1) := hB1
  have HBw1 : Hid (Below w.heap.size w w1) := HW.out.1.trans (hB1.mono HW.out.1.size)
  clear hB1
  cases hp : plainB dir mode data names kids.length with
  | false =>
    have HE : Hid (partsB (n + 1) ⟨dir, mode, data, names, kids⟩ d = false) := by show _ = _; rw [HD.out, hp]; rfl
    clear hp
    go_wp2_with fail
    go_ret
    exact ⟨by rw [HE.out]; rfl, HBw1.out⟩
  | true =>
    have HP : Hid (plainB dir mode data names kids.length = true) := hp
    clear hp
    by_cases h4 : 4 < d
    · have HE : Hid (partsB (n + 1) ⟨dir, mode, data, names, kids⟩ d = false) := by show _ = _; rw [HD.out, show decide (d ≤ 4) = false by simp; omega]; simp
      go_wp2_with fail
      go_ret
      exact ⟨by rw [HE.out]; rfl, HBw1.out⟩
    · have HE : Hid (partsB (n + 1) ⟨dir, mode, data, names, kids⟩ d = (kids.drop 0).all (fun k => partsB n k (d + 1))) := by show _ = _; rw [HD.out, HP.out, show decide (d ≤ 4) = true by simp; omega]; simp
      have hd4 : decide (4 < d) = false := by simp; omega
      go_wp2_with fail
      go_loopw [5] (fun i wr => ∃ (k : Nat), k ≤ kids.length ∧ i = .int .i64 k ∧ Hid (Below W.heap.size W wr) ∧ Hid (partsB (n + 1) ⟨dir, mode, data, names, kids⟩ d = (kids.drop k).all (fun k => partsB n k (d + 1)))) (fun i _ => kids.length - (intOf i).toNat)
      case atStart => exact ⟨0, Nat.zero_le _, rfl, HB1, HE⟩
      case round =>
        obtain ⟨k, hk, rfl, HB, HX⟩ := hrel
        clear HE HB1 HBw1
        have x4 : wr.cell? ⟨w.heap.size, 4, none⟩ = some (.slice a kids.length cap) := (HW.out.2.2.below HB.out (by have := HW.out.2.1; omega)).cell 4 _ rfl
        have HBw : Hid (Below w.heap.size w wr) := HW.out.1.trans (HB.out.mono HW.out.1.size)
        by_cases hlt : k < kids.length
        · obtain ⟨b, o, rfl, hb1, hb2, hcell⟩ := hc (by show 0 < kids.length; omega)
          obtain ⟨nv', kv', c0, c1, c2, c3, c4, hr⟩ := hcell k hlt
          have HR : Hid (Rep wr lo hi n kids[k] nv' kv') := Rep.keep HBw.out hhi n _ _ _ hr
          have hz : hi ≤ wr.heap.size := Nat.le_trans hhi HBw.out.size
          rw [← HBw.out.cell (p := ⟨b, _, none⟩) (by show b < w.heap.size; omega)] at c0 c1 c2 c3 c4
          clear hc hcell hr
          have hdr := all_drop (fun k => partsB n k (d + 1)) kids k hlt
          have HDr : Hid ((kids.drop k).all (fun k => partsB n k (d + 1)) = (partsB n kids[k] (d + 1) && (kids.drop (k + 1)).all (fun k => partsB n k (d + 1)))) := hdr
          clear hdr
          go_wp2_with fail
          refine (HI.out kids[k] nv' kv' (d + 1) wr lo hi HR.out hz (by omega) (by omega)).mono ?_
          rintro e w2 ⟨rfl, hB2⟩
          have HB2 : Hid (Below W.heap.size W w2) := HB.out.trans (hB2.mono HB.out.size)
          have HBw2 : Hid (Below w.heap.size w w2) := HW.out.1.trans (HB2.out.mono HW.out.1.size)
          clear hB2
          cases hpk : partsB n kids[k] (d + 1) with
          | false =>
            have HE : Hid (partsB (n + 1) ⟨dir, mode, data, names, kids⟩ d = false) := by show _ = _; rw [HX.out, HDr.out, hpk]; rfl
            clear hpk
            go_wp2_with fail
            go_ret
            exact ⟨by rw [HE.out]; rfl, HBw2.out⟩
          | true =>
            have HE : Hid (partsB (n + 1) ⟨dir, mode, data, names, kids⟩ d = (kids.drop (k + 1)).all (fun k => partsB n k (d + 1))) := by show _ = _; rw [HX.out, HDr.out, hpk]; rfl
            clear hpk
            go_wp2_with fail
            go_roundw
            case rel => exact ⟨k + 1, by omega, by go_num, HB2, HE⟩
            case measure => simp [intOf]; omega
        · go_wp2
          go_ret
          refine ⟨?_, HBw.out⟩
          rw [HX.out, List.drop_eq_nil_of_le (by omega)]
          rfl

theorem l1Parts_any : ∀ n, PartsC n
  | 0 => fun t => Empty.elim (show Empty from t)
  | n + 1 => l1Parts_succ n (l1Parts_any n)

/-! ### l1Count -/
def CountC (n : Nat) : Prop := ∀ (t : T n) (nv kv : Value) (w : World) (lo hi : Nat), Rep w lo hi n t nv kv → hi ≤ w.heap.size → countT n t ≤ 1048576 →
  Calls Try.prog 34 #[aggT n t nv kv] w fun e w' => e = .returned (.int .i64 (countT n t)) ∧ Below w.heap.size w w'

theorem sum_drop {α : Type} (f : α → Nat) (l : List α) (k : Nat) (h : k < l.length) : ((l.take (k + 1)).map f).sum = ((l.take k).map f).sum + f l[k] := by
  rw [List.take_succ_eq_append_getElem h, List.map_append, List.sum_append]; simp

theorem sum_take_le {α : Type} (f : α → Nat) (l : List α) (k : Nat) : ((l.take k).map f).sum ≤ (l.map f).sum := by
  have : (l.map f).sum = ((l.take k).map f).sum + ((l.drop k).map f).sum := by rw [← List.sum_append, ← List.map_append, List.take_append_drop]
  omega

set_option maxHeartbeats 2000000 in
theorem l1Count_succ (n : Nat) (ih : CountC n) : CountC (n + 1) := by
  intro t nv kv w lo hi hrep hhi hsm
  obtain ⟨_, _, _, hK⟩ := hrep
  obtain ⟨dir, mode, data, names, kids⟩ := t
  obtain ⟨a, cap, rfl, _, hc⟩ := hK
  have hsm : kids.length + (kids.map (countT n)).sum ≤ 1048576 := hsm
  have HD : Hid (countT (n + 1) ⟨dir, mode, data, names, kids⟩ = kids.length + (kids.map (countT n)).sum) := rfl
  show Calls Try.prog 34 #[.agg #[.bool dir, .int .i64 mode, .string data, nv, .slice a kids.length cap]] w _
  have HI : Hid (CountC n) := ih
  clear ih
  have HA : Hid (∀ o, Below w.heap.size w (w.alloc o)) := fun o => (Below.refl _ _).alloc (Nat.le_refl _) o
  go_enter Try.func34, Try.ntmps34
  go_wp2_with fail
  generalize hW : w.alloc (Obj.cells #[.bool dir, .int .i64 mode, .string data, nv, .slice a kids.length cap] 34) = W
  have HW : Hid (Below w.heap.size w W ∧ W.heap.size = w.heap.size + 1 ∧ Blk W w.heap.size #[.bool dir, .int .i64 mode, .string data, nv, .slice a kids.length cap] 34) := by
    subst hW
    exact ⟨HA.out _, by simp, Blk.new w _ _⟩
  clear hW HA
  go_loopw [3, 4] (fun x i wr => ∃ (k : Nat), k ≤ kids.length ∧ i = .int .i64 k ∧ x = .int .i64 ((kids.length + ((kids.take k).map (countT n)).sum : Nat) : Int) ∧ Hid (Below W.heap.size W wr)) (fun _ i _ => kids.length - (intOf i).toNat)
  case atStart => exact ⟨0, Nat.zero_le _, rfl, by simp, Below.refl _ _⟩
  case round =>
    obtain ⟨k, hk, rfl, rfl, HB⟩ := hrel
    have x4 : wr.cell? ⟨w.heap.size, 4, none⟩ = some (.slice a kids.length cap) := (HW.out.2.2.below HB.out (by have := HW.out.2.1; omega)).cell 4 _ rfl
    have HBw : Hid (Below w.heap.size w wr) := HW.out.1.trans (HB.out.mono HW.out.1.size)
    have hle := sum_take_le (countT n) kids k
    by_cases hlt : k < kids.length
    · obtain ⟨b, o, rfl, hb1, hb2, hcell⟩ := hc (by show 0 < kids.length; omega)
      obtain ⟨nv', kv', c0, c1, c2, c3, c4, hr⟩ := hcell k hlt
      have HR : Hid (Rep wr lo hi n kids[k] nv' kv') := Rep.keep HBw.out hhi n _ _ _ hr
      have hz : hi ≤ wr.heap.size := Nat.le_trans hhi HBw.out.size
      rw [← HBw.out.cell (p := ⟨b, _, none⟩) (by show b < w.heap.size; omega)] at c0 c1 c2 c3 c4
      clear hc hcell hr
      have hsd := sum_drop (countT n) kids k hlt
      have HS : Hid (((kids.take (k + 1)).map (countT n)).sum = ((kids.take k).map (countT n)).sum + countT n kids[k]) := hsd
      have hle2 := sum_take_le (countT n) kids (k + 1)
      rw [hsd] at hle2
      clear hsd
      generalize ((kids.take k).map (countT n)).sum = S at *
      go_wp2_with fail
      refine (HI.out kids[k] nv' kv' wr lo hi HR.out hz (by omega)).mono ?_
      rintro e w2 ⟨rfl, hB2⟩
      have HB2 : Hid (Below W.heap.size W w2) := HB.out.trans (hB2.mono HB.out.size)
      clear hB2
      generalize hcn : countT n kids[k] = C at *
      clear hcn
      go_wp2_with fail
      go_roundw
      case rel => exact ⟨k + 1, by omega, by go_num, by rw [HS.out]; go_num, HB2⟩
      case measure => simp [intOf]; omega
    · go_wp2
      go_ret
      refine ⟨ret_int ?_, HBw.out⟩
      rw [HD.out, List.take_of_length_le (by omega)]

theorem l1Count_any : ∀ n, CountC n
  | 0 => fun t => Empty.elim (show Empty from t)
  | n + 1 => l1Count_succ n (l1Count_any n)

/-! ### TreeOk -/
/-- A tree is ok. -/
def okT : (n : Nat) → T n → Bool
  | 0, _ => false
  | n + 1, t => t.dir && partsB (n + 1) t 0 && decide (countT (n + 1) t ≤ 30)

set_option maxHeartbeats 2000000 in
theorem specTreeOk_any (n : Nat) (t : T n) (nv kv : Value) (w : World) (lo hi : Nat) (hrep : Rep w lo hi n t nv kv) (hhi : hi ≤ w.heap.size) (hsm : countT n t ≤ 1048576) :
    Calls Try.prog 19 #[aggT n t nv kv] w fun e w' => e = .returned (.bool (okT n t)) ∧ Below w.heap.size w w' := by
  cases n with
  | zero => exact Empty.elim (show Empty from t)
  | succ n =>
  have HR : Hid (Rep w lo hi (n + 1) t nv kv) := hrep
  have HT : Hid (okT (n + 1) t = (t.dir && partsB (n + 1) t 0 && decide (countT (n + 1) t ≤ 30))) := rfl
  have HPC : Hid (∀ (w1 : World), Below w.heap.size w w1 → Calls Try.prog 33 #[.agg #[.bool t.dir, .int .i64 t.mode, .string t.data, nv, kv], .int .i64 0] w1 fun e w' => e = .returned (.bool (partsB (n + 1) t 0)) ∧ Below w1.heap.size w1 w') :=
    fun w1 h1 => l1Parts_any (n + 1) t nv kv 0 w1 lo hi (Rep.keep h1 hhi _ _ _ _ hrep) (Nat.le_trans hhi h1.size) (by omega) (by omega)
  have HCC : Hid (∀ (w1 : World), Below w.heap.size w w1 → Calls Try.prog 34 #[.agg #[.bool t.dir, .int .i64 t.mode, .string t.data, nv, kv]] w1 fun e w' => e = .returned (.int .i64 (countT (n + 1) t)) ∧ Below w1.heap.size w1 w') :=
    fun w1 h1 => l1Count_any (n + 1) t nv kv w1 lo hi (Rep.keep h1 hhi _ _ _ _ hrep) (Nat.le_trans hhi h1.size) hsm
  clear hrep
  show Calls Try.prog 19 #[.agg #[.bool t.dir, .int .i64 t.mode, .string t.data, nv, kv]] w _
  generalize hdir : t.dir = dir at *
  generalize t.mode = mode at *
  generalize t.data = data at *
  generalize hpp : partsB (n + 1) t 0 = pb at *
  generalize hcc : countT (n + 1) t = cn at *
  clear hdir hpp hcc HR
  have HA : Hid (∀ o, Below w.heap.size w (w.alloc o)) := fun o => (Below.refl _ _).alloc (Nat.le_refl _) o
  cases dir with
  | false =>
    go_enter Try.func19, Try.ntmps19
    go_wp2_with fail
    go_ret
    exact ⟨by rw [HT.out]; rfl, HA.out _⟩
  | true =>
    go_enter Try.func19, Try.ntmps19
    go_wp2_with fail
    generalize hW : w.alloc (Obj.cells #[.bool true, .int .i64 mode, .string data, nv, kv] 34) = W
    have HW : Hid (Below w.heap.size w W ∧ W.heap.size = w.heap.size + 1 ∧ Blk W w.heap.size #[.bool true, .int .i64 mode, .string data, nv, kv] 34) := by
      subst hW
      exact ⟨HA.out _, by simp, Blk.new w _ _⟩
    clear hW HA
    refine (HPC.out W HW.out.1).mono ?_
    rintro e w1 ⟨rfl, hB1⟩
    have HB1 : Hid (Below w.heap.size w w1) := HW.out.1.trans (hB1.mono HW.out.1.size)
    have q := HW.out.2.2.below hB1 (by have := HW.out.2.1; omega)
    have x0 := q.cell 0 _ rfl
    have x1 := q.cell 1 _ rfl
    have x2 := q.cell 2 _ rfl
    have x3 := q.cell 3 _ rfl
    have x4 := q.cell 4 _ rfl
    clear hB1 q
    cases pb with
    | false =>
      go_wp2_with fail
      go_ret
      exact ⟨by rw [HT.out]; rfl, HB1.out⟩
    | true =>
      go_wp2_with fail
      refine (HCC.out w1 HB1.out).mono ?_
      rintro e w2 ⟨rfl, hB2⟩
      have HB2 : Hid (Below w.heap.size w w2) := HB1.out.trans (hB2.mono HB1.out.size)
      clear hB2
      go_wp2_with fail
      go_ret
      refine ⟨?_, HB2.out⟩
      rw [HT.out]
      exact congrArg (fun b : Bool => Ending.returned (.bool b)) (by rw [Bool.eq_iff_iff]; simp; omega)

end Go.Proofs.Ytifbbbgcdklaaaa
