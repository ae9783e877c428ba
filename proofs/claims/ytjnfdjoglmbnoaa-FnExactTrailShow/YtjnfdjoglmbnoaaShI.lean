/- The program's TrailShow. -/
import Derived.Test.YtjnfdjoglmbnoaaShS
import Derived.Test.YtjnfdjoglmbnoaaTkI
import Derived.Test.YtjnfdjoglmbnoaaPathT
import Derived.Test.YtjnfdjoglmbnoaaBld
namespace Go.Proofs.Ytjnfdjoglmbnoaa
open Go.RowKit

set_option maxHeartbeats 1000000 in
theorem markLine_any (m : Mk) (pa : Option Addr) (pc : Nat) (w : World) (lo hi : Nat) (hm : StrsAt w lo hi (.slice pa m.path.length pc) m.path) (hhi : hi ≤ w.heap.size) (hpc : m.path.length ≤ pc) (hq : markQ m = true) :
    Calls Try.prog 15 #[.agg #[.slice pa m.path.length pc, .bool m.sub]] w fun e w' => e = .returned (.string (lineM m)) ∧ Below w.heap.size w w' := by
  have h4 := markQ_len4 hq
  have h5 := markQ_names hq
  have hpl := pathL_len m.path h5 h4
  obtain ⟨path, sub⟩ := m
  have HA : Hid (∀ o, Below w.heap.size w (w.alloc o)) := fun o => (Below.refl _ _).alloc (Nat.le_refl _) o
  have HC : Hid (∀ o, Calls Try.prog 27 #[.slice pa path.length pc] (w.alloc o) fun e w' => e = .returned (.string (tx (pathL path))) ∧ Below w.heap.size w w') := fun o =>
    (pathText_any path pa pc (w.alloc o) lo hi (StrsAt.keep hm (HA.out o) hhi) (Nat.le_trans hhi (HA.out o).size) hpc h4 h5).mono fun e w' ⟨h1, h2⟩ => ⟨h1, (HA.out o).trans (h2.mono (HA.out o).size)⟩
  have hpl : (tx (pathL path)).size ≤ 100 := hpl
  have HV : Hid (lineM ⟨path, sub⟩ = wordM sub ++ tx (pathL path)) := rfl
  generalize lineM ⟨path, sub⟩ = res at HV ⊢
  generalize tx (pathL path) = p at HC HV hpl
  clear hm h4 h5 hq hpc
  show Calls Try.prog 15 #[.agg #[.slice pa path.length pc, .bool sub]] w _
  cases sub
  all_goals
    go_enter Try.func15, Try.ntmps15
    go_wp2_with (go_at_call 27; refine (HC.out _).mono ?_; rintro e w1 ⟨rfl, hB1⟩; have HB1 := hide hB1; clear hB1)
    go_ret
    exact ⟨by rw [HV.out]; rfl, HB1.out⟩

set_option maxHeartbeats 4000000 in
theorem implTrailShow_any (l : List Mk) (v : Value) (w : World) (lo hi : Nat) (hv : McsAt w lo hi v l) (hhi : hi ≤ w.heap.size) :
    Calls Try.prog 7 #[v] w fun e w' => e = .returned (.string (showV l)) ∧ Below w.heap.size w w' := by
  have HOk := hide (implTrailOk_any l v w lo hi hv hhi)
  obtain ⟨a, cap, rfl⟩ : ∃ a cap, v = .slice a l.length cap := by obtain ⟨a, cap, h, _⟩ := hv; exact ⟨a, cap, h⟩
  have HM : Hid (∀ (i : Nat) (h : i < l.length), ∃ b o pa pc, a = some ⟨b, o, none⟩ ∧ (l[i].path.length ≤ pc ∧ pc ≤ maxLen) ∧ (∀ W, Below w.heap.size w W → W.cell? ⟨b, o + i * 2, none⟩ = some (.slice pa l[i].path.length pc) ∧ W.cell? ⟨b, o + i * 2 + 1, none⟩ = some (.bool l[i].sub) ∧ StrsAt W 0 w.heap.size (.slice pa l[i].path.length pc) l[i].path)) := fun i h => mcs_cell hv hhi i h
  clear hv
  cases htb : trailB l with
  | false =>
    have HV : Hid (showV l = ⟨#[]⟩) := by show _ = _; rw [showV, htb]; rfl
    rw [htb] at HOk
    clear htb
    go_enter Try.func7, Try.ntmps7
    go_wp2_with fail
    refine HOk.out.mono ?_
    rintro e w1 ⟨rfl, hB1⟩
    have HB1 := hide hB1
    clear hB1
    go_wp2_with fail
    go_ret
    exact ⟨by rw [HV.out]; rfl, HB1.out⟩
  | true =>
    have HV : Hid (showV l = showT l) := by show _ = _; rw [showV, htb]; rfl
    have HQ := hide (trailB_mark htb)
    have hl6 := trailB_len htb
    rw [htb] at HOk
    clear htb
    go_enter Try.func7, Try.ntmps7
    go_wp2_with fail
    refine HOk.out.mono ?_
    rintro e w1 ⟨rfl, hB1⟩
    have HB1 := hide hB1
    have HA : Hid (IsB w1.heap.size w1.heap.size (Lib.strCells ⟨#[]⟩) (w1.alloc (.cells #[.pointer none, .slice none 0 0] 40)) ∧ Below w.heap.size w (w1.alloc (.cells #[.pointer none, .slice none 0 0] 40)) ∧ w1.heap.size ≤ (w1.alloc (.cells #[.pointer none, .slice none 0 0] 40)).heap.size) := ⟨Lib.fresh_isBuilder _ _ w1, hB1.alloc hB1.size _, by simp⟩
    clear hB1 HOk
    go_wp2_with fail
    go_loopw [11] (fun i wr => ∃ (k : Nat), k ≤ l.length ∧ i = .int .i64 k ∧ Hid ((showT (l.take k)).size ≤ 105 * k) ∧ Hid (IsB w1.heap.size w1.heap.size (Lib.strCells (showT (l.take k))) wr ∧ Below w.heap.size w wr ∧ w1.heap.size ≤ wr.heap.size)) (fun i _ => l.length - (intOf i).toNat)
    case atStart => exact ⟨0, Nat.zero_le _, rfl, Nat.le_refl _, HA⟩
    case round =>
      obtain ⟨k, hk, rfl, HS, HB⟩ := hrel
      clear HA
      by_cases hlt : k < l.length
      · have hltI : (k : Int) < (l.length : Int) := by omega
        obtain ⟨b, o, pa, pc, rfl, hpc, hcell⟩ := HM.out k hlt
        have HCell := hide hcell
        have HPc := hide hpc
        obtain ⟨c0, c1, _⟩ := hcell wr HB.out.2.1
        clear hcell hpc
        have HAl : Hid (Below wr.heap.size wr (wr.alloc (.cells #[.slice pa l[k].path.length pc, .bool l[k].sub] 35))) := (Below.refl _ _).alloc (Nat.le_refl _) _
        have HT : Hid (Calls Try.prog 15 #[.agg #[.slice pa l[k].path.length pc, .bool l[k].sub]] (wr.alloc (.cells #[.slice pa l[k].path.length pc, .bool l[k].sub] 35)) fun e w' => e = .returned (.string (lineM l[k])) ∧ Below wr.heap.size wr w') := by
          have hw := HB.out.2.1.trans (HAl.out.mono HB.out.2.1.size)
          exact (markLine_any l[k] pa pc _ 0 w.heap.size (HCell.out _ hw).2.2 hw.size HPc.out.1 (HQ.out k hlt)).mono fun e w' ⟨h1, h2⟩ => ⟨h1, HAl.out.trans (h2.mono HAl.out.size)⟩
        have htl := lineM_len (HQ.out k hlt)
        have HN : Hid (Lib.strCells (showT (l.take k)) ++ Lib.strCells (lineM l[k]) ++ [.int .u8 10] = Lib.strCells (showT (l.take (k + 1))) ∧ (showT (l.take (k + 1))).size ≤ 105 * (k + 1)) := by
          refine ⟨by rw [cellsT, showT_succ l k hlt, textM], ?_⟩
          have := textM_len (HQ.out k hlt)
          have := HS.out
          rw [showT_succ l k hlt, sizeA]
          omega
        generalize lineM l[k] = t at HT htl HN
        go_wp2_with fail
        refine HT.out.mono ?_
        rintro e w2 ⟨rfl, hB2⟩
        have HB2 : Hid (Below wr.heap.size wr w2) := hB2
        have HBw2 : Hid (Below w.heap.size w w2) := HB.out.2.1.trans (hB2.mono HB.out.2.1.size)
        clear hB2 HT HAl
        go_wp2_with fail
        refine (writeString_any w1.heap.size w1.heap.size _ t w2 (IsB.keep HB.out.1 HB2.out) (by rw [Lib.strCells_length]; have := HS.out; omega) (Nat.le_trans HB.out.2.2 HB2.out.size)).mono ?_
        rintro e w3 ⟨rfl, hI3, hB3⟩
        have HI3 := hide hI3
        have HB3 : Hid (Below w.heap.size w w3) := HBw2.out.trans (hB3.mono HB1.out.size)
        have HZ3 : Hid (w1.heap.size ≤ w3.heap.size) := Nat.le_trans (Nat.le_trans HB.out.2.2 HB2.out.size) hB3.size
        clear hI3 hB3
        go_wp2_with fail
        refine (writeByte_any w1.heap.size w1.heap.size _ 10 w3 (Or.inr HI3.out) (by rw [List.length_append, Lib.strCells_length, Lib.strCells_length]; have := HS.out; omega) HZ3.out).mono ?_
        rintro e w4 ⟨rfl, hI4, hB4⟩
        rw [HN.out.1] at hI4
        have HN4 : Hid (IsB w1.heap.size w1.heap.size (Lib.strCells (showT (l.take (k + 1)))) w4 ∧ Below w.heap.size w w4 ∧ w1.heap.size ≤ w4.heap.size) := ⟨Or.inr hI4, HB3.out.trans (hB4.mono HB1.out.size), Nat.le_trans HZ3.out hB4.size⟩
        clear hI4 hB4
        go_wp2_with fail
        go_roundw
        case rel => exact ⟨k + 1, by omega, by go_num, HN.out.2, HN4⟩
        case measure => simp [intOf]; omega
      · have HI : Hid (Calls Try.prog 17 #[.pointer (some ⟨w1.heap.size, 0, none⟩)] wr fun e w' => e = .returned (.string (showT l)) ∧ Below w1.heap.size wr w') := by
          have h := HB.out.1
          rw [List.take_of_length_le (by omega), Lib.strCells_eq] at h
          have h2 := Try.Builder_String_any w1.heap.size w1.heap.size _ wr h HB.out.2.2
          have h3 : (⟨(showT l).data.toList.toArray⟩ : ByteArray) = showT l := tx_data (showT l)
          rw [h3] at h2
          exact h2
        go_wp2_with (go_at_call 17; refine HI.out.mono ?_; rintro e w5 ⟨rfl, hB5⟩; have HB5 : Hid (Below w.heap.size w w5) := HB.out.2.1.trans (hB5.mono HB1.out.size); clear hB5)
        go_ret
        exact ⟨by rw [HV.out]; rfl, HB5.out⟩

end Go.Proofs.Ytjnfdjoglmbnoaa
