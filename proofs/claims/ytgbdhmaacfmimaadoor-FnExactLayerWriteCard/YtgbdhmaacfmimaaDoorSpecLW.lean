/- The specification writes a layer. -/
import Derived.Test.YtgbdhmaacfmimaaDoorEntL
namespace Go.Proofs.YtgbdhmaacfmimaaDoor
open Go.RowKit

def layT (l : List Ent) : ByteArray := l.foldl (fun s e => s ++ lineE e) ⟨#[]⟩
def layB (l : List Ent) : Bool := l.all entB
def layV (l : List Ent) : ByteArray := if layB l = true ∧ (layT l).size ≤ 6000 then layT l else ⟨#[]⟩

theorem size_mk (a : Array UInt8) : (ByteArray.mk a).size = a.size := rfl
theorem lineQ_len (wt : Int) (d : Bool) (sp sm sx : ByteArray) (h1 : sp.size ≤ 100) (h2 : sm.size ≤ 100) (h3 : sx.size ≤ 100) : (lineQ wt d sp sm sx).size ≤ 400 := by
  unfold lineQ
  repeat' split
  all_goals
    simp only [sizeA, size_mk]
    simp
    omega
theorem lineE_len (e : Ent) (h : entB e = true) : (lineE e).size ≤ 400 := by
  obtain ⟨h1, h2, h3, h4, h5⟩ := entB_parts e h
  exact lineQ_len _ _ _ _ _ (pathL_len _ h1 h2) (by show 1 ≤ 100; decide) (dataL_len _ h5)
theorem layT_succ (l : List Ent) (k : Nat) (h : k < l.length) : layT (l.take (k + 1)) = layT (l.take k) ++ lineE l[k] := by
  unfold layT
  rw [List.take_succ_eq_append_getElem h, List.foldl_append]
  rfl

set_option maxHeartbeats 1000000 in
theorem specLW_any (l : List Ent) (v : Value) (w : World) (lo hi : Nat) (hv : EntsAt w lo hi v l) (hhi : hi ≤ w.heap.size) (hl : l.length ≤ 1048576) :
    Calls Tryd.prog 5 #[v] w fun e w' => e = .returned (.string (layV l)) ∧ Below w.heap.size w w' := by
  obtain ⟨a, cap, rfl, _, hc⟩ := hv
  go_enter Tryd.func5, Tryd.ntmps5
  go_wp2_with fail
  go_loopw [3, 4] (fun x i wr => ∃ (k : Nat) (s : ByteArray), k ≤ l.length ∧ i = .int .i64 k ∧ x = .string s ∧ s.size ≤ 400 * k ∧ Hid (s = layT (l.take k)) ∧ Hid (layB (l.take k) = true) ∧ Hid (Below w.heap.size w wr)) (fun _ i _ => l.length - (intOf i).toNat)
  case atStart => exact ⟨0, _, Nat.zero_le _, rfl, rfl, Nat.le_refl _, rfl, rfl, Below.refl _ _⟩
  case round =>
    obtain ⟨k, s, hk, rfl, rfl, hs, HS, HL, HB⟩ := hrel
    by_cases hlt : k < l.length
    · obtain ⟨b, o, rfl, hb1, hb2, hcell⟩ := hc (by omega)
      obtain ⟨pa, pc, c0, c1, c2, c3, c4, hr⟩ := hcell k hlt
      have HR : Hid (EntOk w lo hi l[k] pa pc) := hr
      have HC : Hid (∀ w1, Below w.heap.size w w1 → w1.cell? ⟨b, o + k * 5, none⟩ = some (.slice pa l[k].path.length pc) ∧ w1.cell? ⟨b, o + k * 5 + 1, none⟩ = some (.int .i64 l[k].what) ∧ w1.cell? ⟨b, o + k * 5 + 2, none⟩ = some (.bool l[k].dir) ∧ w1.cell? ⟨b, o + k * 5 + 3, none⟩ = some (.int .i64 l[k].mode) ∧ w1.cell? ⟨b, o + k * 5 + 4, none⟩ = some (.string l[k].data)) := by
        intro w1 h
        rw [← h.cell (p := ⟨b, _, none⟩) (by show b < w.heap.size; omega)] at c0 c1 c2 c3 c4
        exact ⟨c0, c1, c2, c3, c4⟩
      clear hc hcell hr c0 c1 c2 c3 c4
      obtain ⟨c0, c1, c2, c3, c4⟩ := HC.out wr HB.out
      have hltI : (k : Int) < (l.length : Int) := by omega
      have HK : Hid (Calls Tryd.prog 10 #[aggE l[k] pa pc] wr fun r w' => r = .returned (.bool (entB l[k])) ∧ Below wr.heap.size wr w') := l3EntryOk_any l[k] pa pc wr lo hi (HR.out.keep HB.out hhi) (Nat.le_trans hhi HB.out.size)
      by_cases hok : entB l[k] = true
      · have hlen := lineE_len l[k] hok
        have HTx : Hid (∀ w1, Below w.heap.size w w1 → Calls Tryd.prog 11 #[aggE l[k] pa pc] w1 fun r w' => r = .returned (.string (lineE l[k])) ∧ Below w1.heap.size w1 w') := fun w1 h => l3Text_any l[k] pa pc w1 lo hi (HR.out.keep h hhi) (Nat.le_trans hhi h.size) hok
        have HT : Hid (layT (l.take (k + 1)) = layT (l.take k) ++ lineE l[k]) := layT_succ l k hlt
        have HL1 : Hid (layB (l.take (k + 1)) = true) := by
          have h := HL.out
          show _ = _
          unfold layB at *
          rw [List.take_succ_eq_append_getElem hlt, List.all_append, h]
          simp [hok]
        have HOK : Hid (entB l[k] = true) := hok
        clear hok
        go_wp2_with (first
          | (go_at_call 10; refine HK.out.mono ?_; rintro e w1 ⟨rfl, hB1⟩; rw [HOK.out]; have HB1 : Hid (Below w.heap.size w w1) := HB.out.trans (hB1.mono HB.out.size); obtain ⟨d0, d1, d2, d3, d4⟩ := HC.out w1 HB1.out; clear hB1)
          | (go_at_call 11; refine (HTx.out _ HB1.out).mono ?_; rintro e w2 ⟨rfl, hB2⟩; have HB2 : Hid (Below w.heap.size w w2) := HB1.out.trans (hB2.mono HB1.out.size); clear hB2))
        go_roundw
        case rel => exact ⟨k + 1, _, by omega, by go_num, rfl, by rw [sizeA]; omega, by show _ = _; rw [HT.out, HS.out], HL1, HB2⟩
        case measure => simp [intOf]; omega
      · have hno : entB l[k] = false := by simpa using hok
        have HOK : Hid (entB l[k] = false) := hno
        have HV : Hid (layV l = ⟨#[]⟩) := by
          show _ = _
          rw [layV, if_neg]
          intro h
          have := List.all_eq_true.1 h.1 l[k] (List.getElem_mem hlt)
          rw [hno] at this
          cases this
        clear hok hno
        go_wp2_with (first
          | (go_at_call 10; refine HK.out.mono ?_; rintro e w1 ⟨rfl, hB1⟩; rw [HOK.out]; have HB1 : Hid (Below w.heap.size w w1) := HB.out.trans (hB1.mono HB.out.size); clear hB1))
        go_ret
        exact ⟨by rw [HV.out]; rfl, HB1.out⟩
    · have HE : Hid (s = layT l ∧ layB l = true) := by
        have h1 := HS.out
        have h2 := HL.out
        rw [List.take_of_length_le (by omega)] at h1 h2
        exact ⟨h1, h2⟩
      by_cases h6 : s.size ≤ 6000
      · have h6I : (s.size : Int) ≤ 6000 := by omega
        have HV : Hid (layV l = s) := by
          show _ = _
          rw [layV, if_pos ⟨HE.out.2, by rw [← HE.out.1]; exact h6⟩, HE.out.1]
        go_wp2_with fail
        go_ret
        exact ⟨by rw [HV.out]; rfl, HB.out⟩
      · have h6I : (6000 : Int) < (s.size : Int) := by omega
        have HV : Hid (layV l = ⟨#[]⟩) := by
          show _ = _
          rw [layV, if_neg (by rw [← HE.out.1]; omega)]
        go_wp2_with fail
        go_ret
        exact ⟨by rw [HV.out]; rfl, HB.out⟩

end Go.Proofs.YtgbdhmaacfmimaaDoor
