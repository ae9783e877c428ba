/- Bytes: the program writes them. -/
import Derived.Test.YtigammadhpgahaaDoorHexL
import Derived.Test.YtigammadhpgahaaDoorShelf
import Derived.Laws.BitsAllLaws
namespace Go.Proofs.YtigammadhpgahaaDoor
open Go.RowKit

theorem and15 (b : UInt8) : bits .and .u8 (b.toNat : Int) 15 = ((b.toNat % 16 : Nat) : Int) := by
  have h := b.toNat_lt
  have e := u8_and_nat b.toNat 15 (by omega) (by decide)
  have e2 : b.toNat &&& 15 = b.toNat % 16 := Nat.and_two_pow_sub_one_eq_mod b.toNat 4
  rw [e2] at e
  exact e
theorem fig_at (q : Nat) (h : q < 16) (h' : q < FIG.size) : FIG[q] = fig q := by
  have : ∀ q : Fin 16, FIG.data.toList[q.1]? = some (fig q.1) := by decide
  have h1 := this ⟨q, h⟩
  have h2 : FIG.data.toList[q]? = some FIG[q] := by simp [ByteArray.getElem_eq_getElem_data]
  rw [h2] at h1
  exact Option.some.inj h1
theorem cells_succ (d : ByteArray) (k : Nat) (h : k < d.size) : Lib.byteCells (hexL (d.data.toList.take k)) ++ [.int .u8 ((fig (d[k].toNat / 16)).toNat : Int)] ++ [.int .u8 ((fig (d[k].toNat % 16)).toNat : Int)] = Lib.byteCells (hexL (d.data.toList.take (k + 1))) := by
  have hl : k < d.data.toList.length := by simpa using h
  have e : d.data.toList[k] = d[k] := by simp [ByteArray.getElem_eq_getElem_data]
  rw [List.take_succ_eq_append_getElem hl, e]
  simp [hexL, Lib.byteCells, List.flatMap_append]
theorem cells_len (d : ByteArray) (k : Nat) : (Lib.byteCells (hexL (d.data.toList.take k))).length ≤ 2 * k := by
  have : (Lib.byteCells (hexL (d.data.toList.take k))).length = (hexL (d.data.toList.take k)).length := by simp [Lib.byteCells]
  rw [this, hexL_len]
  have := List.length_take_le k d.data.toList
  omega

set_option maxHeartbeats 1000000 in
theorem dataText_any (d : ByteArray) (w : World) (hd : d.size ≤ 24) (h0 : d.toList.isEmpty = false) (hne : d.size ≠ 0) :
    Calls Tryd.prog 19 #[.string d] w fun e w' => e = .returned (.string (tx (dataL d))) ∧ Below w.heap.size w w' := by
  have HA : Hid (IsB w.heap.size w.heap.size (Lib.byteCells []) (w.alloc (.cells #[.pointer none, .slice none 0 0] 49)) ∧ Below w.heap.size w (w.alloc (.cells #[.pointer none, .slice none 0 0] 49))) := ⟨Lib.fresh_isBuilder _ _ w, (Below.refl _ _).alloc (Nat.le_refl _) _⟩
  go_enter Tryd.func19, Tryd.ntmps19
  go_wp2_with fail
  go_loopw [9] (fun i wr => ∃ (k : Nat), k ≤ d.size ∧ i = .int .i64 k ∧ Hid (IsB w.heap.size w.heap.size (Lib.byteCells (hexL (d.data.toList.take k))) wr ∧ Below w.heap.size w wr)) (fun i _ => d.size - (intOf i).toNat)
  case atStart => exact ⟨0, Nat.zero_le _, rfl, HA⟩
  case round =>
    obtain ⟨k, hk, rfl, HB⟩ := hrel
    by_cases hlt : k < d.size
    · have hltI : (k : Int) < (d.size : Int) := by omega
      have hb := d[k].toNat_lt
      have hq1 : (d[k].toNat : Int) / 16 < 16 := by omega
      have hq2 : d[k].toNat / 16 < 16 := by omega
      have ha := and15 d[k]
      have hr1 : ((d[k].toNat % 16 : Nat) : Int) < 16 := by omega
      have hr2 : d[k].toNat % 16 < 16 := by omega
      have f1 := fig_at _ hq2 hq2
      have f2 := fig_at _ hr2 hr2
      have HC1 : Hid (∀ c, Calls Tryd.prog 27 #[.pointer (some ⟨w.heap.size, 0, none⟩), .int .u8 c] wr fun e w' => e = .returned .nilIface ∧ BAt w.heap.size w.heap.size (.pointer (some ⟨w.heap.size, 0, none⟩)) (Lib.byteCells (hexL (d.data.toList.take k)) ++ [.int .u8 c]) w' ∧ Below w.heap.size wr w') := fun c =>
        writeByte_any _ _ _ c wr HB.out.1 (by have := cells_len d k; omega) HB.out.2.size
      go_wp2_with (first
        | (go_at_call 27; refine (HC1.out _).mono ?_; rintro e w1 ⟨rfl, hI1, hB1⟩; have HI1 := hidB hI1; have HB1 := hidB hB1; clear hI1 hB1))
      have HC2 := hidB (writeByte_any w.heap.size w.heap.size _ ((fig (d[k].toNat % 16)).toNat : Int) w1 (Or.inr HI1.out) (by have := cells_len d k; simp only [List.length_append, List.length_cons, List.length_nil]; omega) (Nat.le_trans HB.out.2.size HB1.out.size))
      refine HC2.out.mono ?_
      rintro e w2 ⟨rfl, hI2, hB2⟩
      rw [cells_succ d k hlt] at hI2
      have HN : Hid (IsB w.heap.size w.heap.size (Lib.byteCells (hexL (d.data.toList.take (k + 1)))) w2 ∧ Below w.heap.size w w2) := ⟨Or.inr hI2, (HB.out.2.trans HB1.out).trans hB2⟩
      clear hI2 hB2
      go_wp2_with fail
      go_roundw
      case rel => exact ⟨k + 1, by omega, by go_num, HN⟩
      case measure => simp [intOf]; omega
    · have HD : Hid (dataL d = hexL d.data.toList) := by show _ = _; rw [dataL, if_neg hne]
      have HI : Hid (IsB w.heap.size w.heap.size (Lib.byteCells (hexL d.data.toList)) wr) := by
        have h := HB.out.1
        rw [List.take_of_length_le (by simp; omega)] at h
        exact h
      go_wp2_with (go_at_call 28; refine (Tryd.Builder_String_any _ _ _ wr HI.out HB.out.2.size).mono ?_; rintro e w1 ⟨rfl, hB1⟩; have HB1 := hidB hB1; clear hB1)
      go_ret
      exact ⟨by rw [HD.out]; rfl, HB.out.2.trans HB1.out⟩

end Go.Proofs.YtigammadhpgahaaDoor
