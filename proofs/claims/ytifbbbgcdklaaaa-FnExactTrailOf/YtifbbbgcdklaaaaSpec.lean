/- The specification's own TreeOk, part by part: l1Plain, l1Parts, l1Count. -/
import Derived.Test.YtifbbbgcdklaaaaProg
import Derived.Test.YtifbbbgcdklaaaaSz
import Derived.Test.YtifbbbgcdklaaaaLeaf
import Derived.Deep.QuietTactic
import Derived.BigQuiet
import Derived.Deep.RegionWith
namespace Go.Proofs.Ytifbbbgcdklaaaa
open Go.RowKit

def modeB (m : Int) : Bool := decide (0 ≤ m) && decide (m ≤ 7)
def less (a b : ByteArray) : Bool := Op.bytesLess a.toList b.toList
def nameAt (l : List ByteArray) (i : Nat) : Bool := nameB (l.getD i ByteArray.empty) && (i == 0 || less (l.getD (i - 1) ByteArray.empty) (l.getD i ByteArray.empty))
/-- Names, ascending, each one. -/
def namesB (l : List ByteArray) : Bool := (List.range l.length).all (nameAt l)
/-- A part that is ok by itself. -/
def plainB (dir : Bool) (mode : Int) (data : ByteArray) (names : List ByteArray) (k : Nat) : Bool :=
  modeB mode && (names.length == k) && (if dir then namesB names && (data.size == 0) else decide (data.size ≤ 24) && (names.length == 0))

theorem range_all_succ (p : Nat → Bool) (k : Nat) (h : (List.range k).all p = true) (hp : p k = true) : (List.range (k + 1)).all p = true := by
  rw [List.range_succ, List.all_append, h]; simp [hp]
theorem range_all_no (p : Nat → Bool) (n k : Nat) (hk : k < n) (hp : p k = false) : (List.range n).all p = false := by
  rw [List.all_eq_false]
  exact ⟨k, List.mem_range.2 hk, by simp [hp]⟩
theorem getD_at (l : List ByteArray) (k : Nat) (h : k < l.length) : l.getD k ByteArray.empty = l[k] := by simp [h]
theorem isEmpty_size (data : ByteArray) : data.toList.isEmpty = (data.size == 0) := by
  rw [ByteArray.toList_eq, Bool.eq_iff_iff]
  simp only [List.isEmpty_iff, beq_iff_eq]
  rw [← List.length_eq_zero_iff]
  simp

set_option maxHeartbeats 2000000 in
theorem l1Plain_any (dir : Bool) (mode : Int) (data : ByteArray) (names : List ByteArray) (nv : Value) (ka : Option Addr) (kn kc : Nat) (w : World) (lo hi : Nat)
    (hd : data.size ≤ maxLen) (hN : StrsAt w lo hi nv names) (hhi : hi ≤ w.heap.size) (hk : kn ≤ maxLen) :
    Calls Try.prog 45 #[.agg #[.bool dir, .int .i64 mode, .string data, nv, .slice ka kn kc]] w fun e w' => e = .returned (.bool (plainB dir mode data names kn)) ∧ Below w.heap.size w w' := by
  obtain ⟨a, cap, rfl, hl, hs, hc⟩ := hN
  have HS : Hid (∀ (i : Nat) (h : i < names.length), names[i].size ≤ maxLen) := hs
  clear hs
  unfold maxLen at hl hk hd
  have HA : Hid (∀ o, Below w.heap.size w (w.alloc o)) := fun o => (Below.refl _ _).alloc (Nat.le_refl _) o
  cases hm : (decide (0 ≤ mode) && decide (mode ≤ 7)) with
  | false =>
    have HP : Hid (plainB dir mode data names kn = false) := by show _ = _; rw [plainB, modeB, hm]; rfl
    have HM : Hid ((decide (0 ≤ mode) && decide (mode ≤ 7)) = false) := hm
    clear hm
    go_enter Try.func45, Try.ntmps45
    go_wp2_with fail
    refine (l1In_any _ _ _ _).mono ?_
    rw [HM.out]
    rintro e w1 ⟨rfl, rfl⟩
    go_wp2_with fail
    go_ret
    exact ⟨by rw [HP.out]; rfl, HA.out _⟩
  | true =>
    have HM : Hid ((decide (0 ≤ mode) && decide (mode ≤ 7)) = true) := hm
    clear hm
    by_cases hlen : names.length = kn
    · subst hlen
      cases dir with
      | false =>
        have HP : Hid (plainB false mode data names names.length = (decide (data.size ≤ 24) && (names.length == 0))) := by show _ = _; rw [plainB, modeB, HM.out]; simp
        by_cases h24 : (data.size : Int) ≤ 24
        · go_enter Try.func45, Try.ntmps45
          go_wp2_with fail
          refine (l1In_any _ _ _ _).mono ?_
          rw [HM.out]
          rintro e w1 ⟨rfl, rfl⟩
          go_wp2_with fail
          go_ret
          refine ⟨?_, HA.out _⟩
          rw [HP.out, show decide (data.size ≤ 24) = true by simp; omega]
          exact congrArg (fun b : Bool => Ending.returned (.bool b)) (by rw [Bool.true_and, Bool.eq_iff_iff]; simp)
        · have hd24 : decide ((data.size : Int) ≤ 24) = false := by simp; omega
          go_enter Try.func45, Try.ntmps45
          go_wp2_with fail
          refine (l1In_any _ _ _ _).mono ?_
          rw [HM.out]
          rintro e w1 ⟨rfl, rfl⟩
          go_wp2_with fail
          go_ret
          refine ⟨?_, HA.out _⟩
          rw [HP.out, show decide (data.size ≤ 24) = false by simp; omega]
          rfl
      | true =>
        have HP : Hid (plainB true mode data names names.length = (namesB names && (data.size == 0))) := by show _ = _; rw [plainB, modeB, HM.out]; simp
        go_enter Try.func45, Try.ntmps45
        go_wp2_with fail
        refine (l1In_any _ _ _ _).mono ?_
        rw [HM.out]
        rintro e w1 ⟨rfl, rfl⟩
        generalize hW : w.alloc (Obj.cells #[.bool true, .int .i64 mode, .string data, .slice a names.length cap, .slice ka names.length kc] 34) = W
        have HW : Hid (Below w.heap.size w W ∧ W.heap.size = w.heap.size + 1 ∧ Blk W w.heap.size #[.bool true, .int .i64 mode, .string data, .slice a names.length cap, .slice ka names.length kc] 34) := by
          subst hW
          exact ⟨HA.out _, by simp, Blk.new w _ _⟩
        clear hW HA
        have x0 := HW.out.2.2.cell 0 _ rfl
        have x2 := HW.out.2.2.cell 2 _ rfl
        have x3 := HW.out.2.2.cell 3 _ rfl
        have x4 := HW.out.2.2.cell 4 _ rfl
        go_wp2_with fail
        clear x0 x2 x3 x4
        go_loopw [3] (fun i wr => ∃ (k : Nat), k ≤ names.length ∧ i = .int .i64 k ∧ Hid (Below W.heap.size W wr) ∧ Hid ((List.range k).all (nameAt names) = true)) (fun i _ => names.length - (intOf i).toNat)
        case atStart => exact ⟨0, Nat.zero_le _, rfl, Below.refl _ _, rfl⟩
        case round =>
          obtain ⟨k, hk', rfl, HB, HA⟩ := hrel
          have x2 : wr.cell? ⟨w.heap.size, 2, none⟩ = some (.string data) := (HW.out.2.2.below HB.out (by have := HW.out.2.1; omega)).cell 2 _ rfl
          have x3 : wr.cell? ⟨w.heap.size, 3, none⟩ = some (.slice a names.length cap) := (HW.out.2.2.below HB.out (by have := HW.out.2.1; omega)).cell 3 _ rfl
          have HBw : Hid (Below w.heap.size w wr) := HW.out.1.trans (HB.out.mono HW.out.1.size)
          by_cases hlt : k < names.length
          · obtain ⟨b, o, rfl, hb1, hb2, hcell⟩ := hc (by omega)
            have hck := hcell k hlt
            rw [← HBw.out.cell (p := ⟨b, _, none⟩) (by show b < w.heap.size; omega)] at hck
            have HCl : Hid (∀ (i : Nat) (h : i < names.length), wr.cell? ⟨b, o + i, none⟩ = some (.string names[i])) := fun i h => by
              rw [HBw.out.cell (p := ⟨b, _, none⟩) (by show b < w.heap.size; omega)]; exact hcell i h
            have hd' : (k : Int) < (names.length : Int) := by omega
            have HNm : Hid (∀ u, Calls Try.prog 46 #[.string names[k]] u fun e w' => e = .returned (.bool (nameB names[k])) ∧ w' = u) := fun u => l1NameOk_any _ u (HS.out k hlt)
            clear hc hcell
            cases hnb : nameB names[k] with
            | false =>
              have HE : Hid (plainB true mode data names names.length = false) := by
                show _ = _
                rw [HP.out, namesB, range_all_no _ _ k hlt (by rw [nameAt, getD_at _ _ hlt, hnb]; rfl)]; rfl
              have HNm' : Hid (∀ u, Calls Try.prog 46 #[.string names[k]] u fun e w' => e = .returned (.bool false) ∧ w' = u) := fun u => by have := HNm.out u; rwa [hnb] at this
              clear HNm hnb
              go_wp2
              go_quiet ((go_at_call 46; exact Calls.quiet_of_same (HNm'.out _)))
              go_wp2
              go_ret
              exact ⟨by rw [HE.out]; rfl, below_drewN HBw.out _⟩
            | true =>
              have HNm' : Hid (∀ u, Calls Try.prog 46 #[.string names[k]] u fun e w' => e = .returned (.bool true) ∧ w' = u) := fun u => by have := HNm.out u; rwa [hnb] at this
              have HNB : Hid (nameB names[k] = true) := hnb
              clear HNm hnb
              rcases Nat.eq_zero_or_pos k with hk0 | hpos
              · have HK0 : Hid (k = 0) := hk0
                have hd0 : decide (0 < k) = false := by simp; omega
                clear hk0
                go_wp2
                go_quiet ((go_at_call 46; exact Calls.quiet_of_same (HNm'.out _)))
                go_wp2
                go_roundw
                case rel => exact ⟨k + 1, by omega, by go_num, below_drewN HB.out _, range_all_succ _ k HA.out (by rw [nameAt, getD_at _ _ hlt, HNB.out, show (k == 0) = true by rw [HK0.out]; rfl]; rfl)⟩
                case measure => simp [intOf]; omega
              · obtain ⟨j, rfl⟩ : ∃ j, k = j + 1 := ⟨k - 1, by omega⟩
                have hcj := HCl.out j (by omega)
                have hp0 : (0 : Int) < ((j + 1 : Nat) : Int) := by omega
                cases hls : Op.bytesLess names[j].toList names[j + 1].toList with
                | true =>
                  have HLS : Hid (Op.bytesLess names[j].toList names[j + 1].toList = true) := hls
                  go_wp2
                  go_quiet ((go_at_call 46; exact Calls.quiet_of_same (HNm'.out _)))
                  go_wp2
                  go_roundw
                  case rel => exact ⟨j + 1 + 1, by omega, by go_num, below_drewN HB.out _, range_all_succ _ (j + 1) HA.out (by
                    rw [nameAt, getD_at _ _ hlt, HNB.out, Nat.add_sub_cancel, getD_at _ j (by omega), less, HLS.out]; simp)⟩
                  case measure => simp [intOf]; omega
                | false =>
                  have HE : Hid (plainB true mode data names names.length = false) := by
                    show _ = _
                    rw [HP.out, namesB, range_all_no _ _ (j + 1) hlt (by rw [nameAt, getD_at _ _ hlt, Nat.add_sub_cancel, getD_at _ j (by omega), less, hls]; simp)]; rfl
                  go_wp2
                  go_quiet ((go_at_call 46; exact Calls.quiet_of_same (HNm'.out _)))
                  go_wp2
                  go_ret
                  exact ⟨by rw [HE.out]; rfl, below_drewN HBw.out _⟩
          · go_wp2
            go_ret
            refine ⟨?_, HBw.out⟩
            have e : k = names.length := by omega
            rw [HP.out, namesB, ← e, HA.out, ← isEmpty_size]
            rfl
    · have HP : Hid (plainB dir mode data names kn = false) := by show _ = _; rw [plainB, modeB, HM.out]; simp [hlen]
      have hb : ((names.length : Int) == (kn : Int)) = false := by simp; omega
      go_enter Try.func45, Try.ntmps45
      go_wp2_with fail
      refine (l1In_any _ _ _ _).mono ?_
      rw [HM.out]
      rintro e w1 ⟨rfl, rfl⟩
      go_wp2_with fail
      go_ret
      exact ⟨by rw [HP.out]; rfl, HA.out _⟩

end Go.Proofs.Ytifbbbgcdklaaaa
