/- The program writes a layer. -/
import Derived.Test.YtgbdhmaacfmimaaDoorEntS
import Derived.Test.YtgbdhmaacfmimaaDoorSpecLW
namespace Go.Proofs.YtgbdhmaacfmimaaDoor
open Go.RowKit

theorem layT_mono (l : List Ent) (k : Nat) : (layT (l.take k)).size ≤ (layT l).size := by
  have h : layT l = (l.drop k).foldl (fun s e => s ++ lineE e) (layT (l.take k)) := by
    unfold layT
    rw [← List.foldl_append, List.take_append_drop]
  rw [h]
  generalize layT (l.take k) = s
  generalize l.drop k = r
  induction r generalizing s with
  | nil => exact Nat.le_refl _
  | cons e r ih =>
    have := ih (s ++ lineE e)
    rw [sizeA] at this
    show s.size ≤ (List.foldl _ (s ++ lineE e) r).size
    omega
theorem cellsT (s t : ByteArray) : Lib.strCells s ++ Lib.strCells t ++ [.int .u8 10] = Lib.strCells (s ++ (t ++ ⟨#[10]⟩)) := by
  simp [Lib.strCells]

theorem IsB.keep {B b : Nat} {bs : List Value} {w w' : World} (h : IsB B b bs w) (hb : Below w.heap.size w w') : IsB B b bs w' := by
  have key : ∀ p, BAt B b p bs w → BAt B b p bs w' := by
    rintro p ⟨h1, v, h2, ⟨h3, h4⟩, h5⟩
    refine ⟨h1, v, by rw [hb.block b (heap_lt h2)]; exact h2, ⟨h3, ?_⟩, h5⟩
    rcases h4 with h4 | ⟨g, cap, cur, hv, hg, hh, r⟩
    · exact Or.inl h4
    · exact Or.inr ⟨g, cap, cur, hv, hg, by rw [hb.block g (heap_lt hh)]; exact hh, r⟩
  rcases h with h | h
  · exact Or.inl (key _ h)
  · exact Or.inr (key _ h)
theorem decD : ∀ m : Fin 8, Lib.decDigits m.1 = decL m.1 := by decide +kernel
theorem itoa8 (m : Nat) (W : World) (h : m < 8) : Calls Tryd.prog 32 #[.int .i64 m] W fun e w' => e = .returned (.string (tx (decL m))) ∧ Below W.heap.size W w' := by
  refine (Tryd.strconv_Itoa_small m (by omega) W).mono ?_
  rintro e w' ⟨rfl, rfl⟩
  exact ⟨by rw [decD ⟨m, h⟩], Below.refl _ _⟩

set_option maxHeartbeats 1000000 in
theorem layerWrite_any (l : List Ent) (v : Value) (w : World) (lo hi : Nat) (hv : EntsAt w lo hi v l) (hhi : hi ≤ w.heap.size) (hF : FormsAt w) (hl : l.length ≤ 1048576) :
    Calls Tryd.prog 7 #[v] w fun e w' => e = .returned (.string (layV l)) ∧ Below w.heap.size w w' := by
  obtain ⟨a, cap, rfl, _, hc⟩ := hv
  have HF : Hid (FormsAt w) := hF
  clear hF
  have HA : Hid (IsB w.heap.size w.heap.size (Lib.strCells ⟨#[]⟩) (w.alloc (.cells #[.pointer none, .slice none 0 0] 40)) ∧ Below w.heap.size w (w.alloc (.cells #[.pointer none, .slice none 0 0] 40))) := ⟨Lib.fresh_isBuilder _ _ w, (Below.refl _ _).alloc (Nat.le_refl _) _⟩
  go_enter Tryd.func7, Tryd.ntmps7
  go_wp2_with fail
  go_loopw [8] (fun i wr => ∃ (k : Nat), k ≤ l.length ∧ i = .int .i64 k ∧ Hid (layB (l.take k) = true) ∧ Hid ((layT (l.take k)).size ≤ 6000) ∧ Hid (IsB w.heap.size w.heap.size (Lib.strCells (layT (l.take k))) wr ∧ Below w.heap.size w wr)) (fun i _ => l.length - (intOf i).toNat)
  case atStart => exact ⟨0, Nat.zero_le _, rfl, rfl, Nat.zero_le _, HA⟩
  case round =>
    obtain ⟨k, hk, rfl, HL, HS, HB⟩ := hrel
    clear HA
    by_cases hlt : k < l.length
    · obtain ⟨b, o, rfl, hb1, hb2, hcell⟩ := hc (by omega)
      obtain ⟨pa, pc, c0, c1, c2, c3, c4, hr⟩ := hcell k hlt
      have HR : Hid (EntOk w lo hi l[k] pa pc) := hr
      have HC : Hid (∀ w1, Below w.heap.size w w1 → w1.cell? ⟨b, o + k * 5, none⟩ = some (.slice pa l[k].path.length pc) ∧ w1.cell? ⟨b, o + k * 5 + 1, none⟩ = some (.int .i64 l[k].what) ∧ w1.cell? ⟨b, o + k * 5 + 2, none⟩ = some (.bool l[k].dir) ∧ w1.cell? ⟨b, o + k * 5 + 3, none⟩ = some (.int .i64 l[k].mode) ∧ w1.cell? ⟨b, o + k * 5 + 4, none⟩ = some (.string l[k].data)) := by
        intro w1 h
        rw [← h.cell (p := ⟨b, _, none⟩) (by show b < w.heap.size; omega)] at c0 c1 c2 c3 c4
        exact ⟨c0, c1, c2, c3, c4⟩
      clear hc hcell hr c0 c1 c2 c3 c4
      obtain ⟨c0, c1, c2, c3, c4⟩ := HC.out wr HB.out.2
      have hltI : (k : Int) < (l.length : Int) := by omega
      have HK : Hid (∀ o', Calls Tryd.prog 13 #[aggE l[k] pa pc] (wr.alloc o') fun r w' => r = .returned (.bool (entB l[k])) ∧ Below (wr.alloc o').heap.size (wr.alloc o') w') := fun o' => by
        have hB := HB.out.2.alloc HB.out.2.size o'
        exact isEntry_any l[k] pa pc (wr.alloc o') lo hi (HR.out.keep hB hhi) (Nat.le_trans hhi hB.size) (HF.out.keep hB)
      by_cases hok : entB l[k] = true
      · obtain ⟨t, ht, hline⟩ := entryLine_any l[k] pa pc lo hi hok itoa8
        have hlen := lineE_len l[k] hok
        have htl : t.size ≤ 400 := by rw [← ht, sizeA] at hlen; omega
        have HTx : Hid (∀ w1, Below w.heap.size w w1 → Calls Tryd.prog 15 #[aggE l[k] pa pc] w1 fun r w' => r = .returned (.string t) ∧ Below w1.heap.size w1 w') := fun w1 h => hline w1 (HR.out.keep h hhi) (Nat.le_trans hhi h.size) (HF.out.keep h)
        have HT : Hid (Lib.strCells (layT (l.take k)) ++ Lib.strCells t ++ [.int .u8 10] = Lib.strCells (layT (l.take (k + 1)))) := by
          show _ = _
          rw [cellsT, ht, layT_succ l k hlt]
        have HM : Hid ((layT (l.take (k + 1))).size ≤ (layT l).size) := layT_mono l (k + 1)
        have HL1 : Hid (layB (l.take (k + 1)) = true) := by
          have h := HL.out
          show _ = _
          unfold layB at *
          rw [List.take_succ_eq_append_getElem hlt, List.all_append, h]
          simp [hok]
        have HOK : Hid (entB l[k] = true) := hok
        clear hok hline hlen ht
        go_wp2_with (first
          | (go_at_call 13; refine (HK.out _).mono ?_; rintro e w1 ⟨rfl, hB1⟩; rw [HOK.out]; have HD := hidB ((Blk.new wr #[.slice pa l[k].path.length pc, .int .i64 l[k].what, .bool l[k].dir, .int .i64 l[k].mode, .string l[k].data] 34).below hB1 (by simp)); have d0 := HD.out.cell 0 _ rfl; have d1 := HD.out.cell 1 _ rfl; have d2 := HD.out.cell 2 _ rfl; have d3 := HD.out.cell 3 _ rfl; have d4 := HD.out.cell 4 _ rfl; have HB1 : Hid (Below wr.heap.size wr w1) := ent_below hB1; clear hB1)
          | (go_at_call 15; refine (HTx.out _ (HB.out.2.trans (HB1.out.mono HB.out.2.size))).mono ?_; rintro e w2 ⟨rfl, hB2⟩; have HB2 : Hid (Below wr.heap.size wr w2) := HB1.out.trans (hB2.mono HB1.out.size); clear hB2))
        have hn2 := HB.out.2.trans (HB2.out.mono HB.out.2.size)
        refine (writeString_any w.heap.size w.heap.size _ t w2 (IsB.keep HB.out.1 HB2.out) (by rw [Lib.strCells_length]; have := HS.out; omega) hn2.size).mono ?_
        rintro e w3 ⟨rfl, hI3, hB3⟩
        have HI3 := hidB hI3
        have HB3 : Hid (Below w.heap.size w w3) := hn2.trans hB3
        clear hI3 hB3 hn2
        go_wp2_with fail
        refine (writeByte_any w.heap.size w.heap.size _ 10 w3 (Or.inr HI3.out) (by rw [List.length_append, Lib.strCells_length, Lib.strCells_length]; have := HS.out; omega) HB3.out.size).mono ?_
        rintro e w4 ⟨rfl, hI4, hB4⟩
        rw [HT.out] at hI4
        have HI4 : Hid (IsB w.heap.size w.heap.size (Lib.strCells (layT (l.take (k + 1)))) w4) := Or.inr hI4
        have HB4 : Hid (Below w.heap.size w w4) := HB3.out.trans hB4
        clear hI4 hB4
        have HLn : Hid (Calls Tryd.prog 17 #[.pointer (some ⟨w.heap.size, 0, none⟩)] w4 fun e w' => e = .returned (.int .i64 ((layT (l.take (k + 1))).size : Nat)) ∧ w' = w4) := by
          have h := Tryd.Builder_Len w.heap.size w.heap.size _ w4 HI4.out
          rw [Lib.strCells_length] at h
          exact h
        by_cases h6 : (layT (l.take (k + 1))).size ≤ 6000
        · have HS1 : Hid ((layT (l.take (k + 1))).size ≤ 6000) := h6
          have h6I : ((layT (l.take (k + 1))).size : Int) ≤ 6000 := by omega
          have HN : Hid (IsB w.heap.size w.heap.size (Lib.strCells (layT (l.take (k + 1)))) w4 ∧ Below w.heap.size w w4) := ⟨HI4.out, HB4.out⟩
          clear h6
          go_wp2_with (go_at_call 17; refine HLn.out.mono ?_; rintro e w' ⟨rfl, rfl⟩)
          go_roundw
          case rel => exact ⟨k + 1, by omega, by go_num, HL1, HS1, HN⟩
          case measure => simp [intOf]; omega
        · have h6I : (6000 : Int) < ((layT (l.take (k + 1))).size : Int) := by omega
          have HV : Hid (layV l = ⟨#[]⟩) := by
            show _ = _
            rw [layV, if_neg]
            intro h
            have := HM.out
            omega
          clear h6
          go_wp2_with (go_at_call 17; refine HLn.out.mono ?_; rintro e w' ⟨rfl, rfl⟩)
          go_ret
          exact ⟨by rw [HV.out]; rfl, HB4.out⟩
      · have hno : entB l[k] = false := by simpa using hok
        have HOK : Hid (entB l[k] = false) := hno
        have HV : Hid (layV l = ⟨#[]⟩) := by
          show _ = _
          rw [layV, if_neg]
          intro h
          have := List.all_eq_true.1 h.1 l[k] (List.getElem_mem hlt)
          rw [hno] at this
          cases this
        clear hok hno
        go_wp2_with (first
          | (go_at_call 13; refine (HK.out _).mono ?_; rintro e w1 ⟨rfl, hB1⟩; rw [HOK.out]; have HB1 : Hid (Below w.heap.size w w1) := HB.out.2.trans ((ent_below hB1).mono HB.out.2.size); clear hB1))
        go_ret
        exact ⟨by rw [HV.out]; rfl, HB1.out⟩
    · have HV : Hid (layV l = layT l) := by
        have h1 := HL.out
        have h2 := HS.out
        rw [List.take_of_length_le (by omega)] at h1 h2
        show _ = _
        rw [layV, if_pos ⟨h1, h2⟩]
      have HI : Hid (Calls Tryd.prog 18 #[.pointer (some ⟨w.heap.size, 0, none⟩)] wr fun e w' => e = .returned (.string (layT l)) ∧ Below w.heap.size wr w') := by
        have h := HB.out.1
        rw [List.take_of_length_le (by omega), Lib.strCells_eq] at h
        have h2 := Tryd.Builder_String_any w.heap.size w.heap.size _ wr h HB.out.2.size
        have h3 : (⟨(layT l).data.toList.toArray⟩ : ByteArray) = layT l := tx_data (layT l)
        rw [h3] at h2
        exact h2
      go_wp2_with (go_at_call 18; refine HI.out.mono ?_; rintro e w1 ⟨rfl, hB1⟩; have HB1 := hidB hB1; clear hB1)
      go_ret
      exact ⟨by rw [HV.out]; rfl, HB.out.2.trans HB1.out⟩

end Go.Proofs.YtgbdhmaacfmimaaDoor
