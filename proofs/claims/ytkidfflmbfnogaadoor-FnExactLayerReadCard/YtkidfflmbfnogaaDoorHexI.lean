/- readData: bytes out of figures. -/
import Derived.Test.YtkidfflmbfnogaaDoorLow
import Derived.Test.YtkidfflmbfnogaaDoorHex
import Derived.Test.YtkidfflmbfnogaaDoorBld
import Derived.Test.YtkidfflmbfnogaaDoorShelf
namespace Go.Proofs.YtkidfflmbfnogaaDoor
open Go.RowKit

abbrev figsB : ByteArray := ⟨#[48, 49, 50, 51, 52, 53, 54, 55, 56, 57, 97, 98, 99, 100, 101, 102]⟩
/-- What readData gives: no more than 24 bytes. -/
def dataV (s : ByteArray) : Option ByteArray := if s.size ≤ 48 then bytesV s else none
theorem fig_index (c : UInt8) (W : World) : Calls Tryd.prog 40 #[.string figsB, .int .u8 c.toNat] W fun e w' => e = .returned (.int .i64 (if digV c < 16 then (digV c : Int) else -1)) ∧ W = w' := by
  refine (Tryd.strings_IndexByte figsB c.toNat W).mono fun e w' ⟨h1, h2⟩ => ⟨?_, h2.symm⟩
  rw [h1, show (figsB.data.toList : List UInt8) = figsL from rfl, show ((c.toNat : Int).toNat.toUInt8) = c from by simp, digV_index]
theorem hi_lo (p q : Nat) (hp : p < 16) (hq : q < 16) : bits .or .i64 ((p : Int) * 16) (q : Int) = ((16 * p + q : Nat) : Int) := by
  have h : ∀ p q : Fin 16, bits .or .i64 ((p.val : Int) * 16) (q.val : Int) = ((16 * p.val + q.val : Nat) : Int) := by decide +kernel
  exact h ⟨p, hp⟩ ⟨q, hq⟩
theorem byte_cells (x : List UInt8) (n : Nat) (hn : n < 256) : Lib.byteCells x ++ [.int .u8 (n : Int)] = Lib.byteCells (x ++ [UInt8.ofNat n]) := by
  simp only [Lib.byteCells, List.map_append, List.map_cons, List.map_nil]
  congr 3
  rw [UInt8.toNat_ofNat']
  omega

set_option maxRecDepth 100000 in
set_option maxHeartbeats 2000000 in
theorem readData_any (s : ByteArray) (w : World) (hs : s.size ≤ 1048576) :
    Calls Tryd.prog 26 #[.string s] w fun e w' => e = .returned (.tuple #[.string ((dataV s).getD ⟨#[]⟩), .bool (dataV s).isSome]) ∧ Below w.heap.size w w' := by
  by_cases hd : s = ⟨#[45]⟩
  · subst hd
    go_enter Tryd.func26, Tryd.ntmps26
    go_wp2
    go_ret2
    exact ⟨rfl, Below.refl _ _⟩
  · have d1 : ¬ s.toList = [45] := fun e => hd (toList_inj (e.trans (by rw [Lib.toList_data])))
    have d2 : (s.toList == [45]) = false := beq_eq_false_iff_ne.2 d1
    by_cases h0 : s.size = 0
    · obtain rfl : s = ⟨#[]⟩ := by rw [← ofL_toL s, List.eq_nil_of_length_eq_zero (l := s.data.toList) (by simpa using h0)]
      go_enter Tryd.func26, Tryd.ntmps26
      go_wp2
      go_ret2
      exact ⟨rfl, Below.refl _ _⟩
    · have n1 : ¬ s.toList = [] := fun e => by
        rw [Lib.toList_data] at e
        have h5 : s.data.toList.length = s.size := by simp
        rw [e, List.length_nil] at h5
        exact h0 h5.symm
      have n2 : s.toList.isEmpty = false := by simpa using n1
      have n3 : (s.toList == []) = false := beq_eq_false_iff_ne.2 n1
      by_cases hodd : s.size % 2 = 1 ∨ 48 < s.size
      · have HN : Hid (dataV s = none) := by
          show _ = _
          unfold dataV
          split
          · unfold bytesV
            rw [if_neg hd, if_neg h0]
            cases hu : unhex s.data.toList with
            | none => rfl
            | some x => have := unhex_len _ _ hu; simp at this; omega
          · rfl
        have o1 : ((s.size : Int) % 2 != 0) = true ∨ (((s.size : Int) % 2 != 0) = false ∧ (48 : Int) < (s.size : Int)) := by
          rcases hodd with h | h
          · exact .inl (by simp; omega)
          · by_cases h2 : s.size % 2 = 1
            · exact .inl (by simp; omega)
            · exact .inr ⟨by simp; omega, by omega⟩
        clear hd
        rcases o1 with o1 | ⟨o1, o2⟩
        all_goals
          go_enter Tryd.func26, Tryd.ntmps26
          go_wp2
          go_ret2
          exact ⟨by rw [HN.out]; rfl, Below.refl _ _⟩
      · have HV : Hid (dataV s = (unhex s.data.toList).map ofL) := by show _ = _; unfold dataV bytesV; rw [if_pos (by omega), if_neg hd, if_neg h0]
        have o1 : ((s.size : Int) % 2 != 0) = false := by simp; omega
        have o2 : ¬ (48 : Int) < (s.size : Int) := by omega
        have HA : Hid (IsB w.heap.size w.heap.size (Lib.byteCells []) (w.alloc (.cells #[.pointer none, .slice none 0 0] 69)) ∧ Below w.heap.size w (w.alloc (.cells #[.pointer none, .slice none 0 0] 69))) := ⟨Lib.fresh_isBuilder _ _ w, (Below.refl _ _).alloc (Nat.le_refl _) _⟩
        clear hd
        go_enter Tryd.func26, Tryd.ntmps26
        go_wp2_with fail
        go_loopw [5] (fun i wr => ∃ (k : Nat) (x : List UInt8), k ≤ s.size ∧ k % 2 = 0 ∧ 2 * x.length = k ∧ i = .int .i64 k ∧ Hid (unhex (s.data.toList.take k) = some x) ∧ Hid (IsB w.heap.size w.heap.size (Lib.byteCells x) wr ∧ Below w.heap.size w wr)) (fun i _ => s.size - (intOf i).toNat)
        case atStart => exact ⟨0, [], Nat.zero_le _, rfl, rfl, rfl, rfl, HA⟩
        case round =>
          obtain ⟨k, x, hk, hk2, hxl, rfl, HU, HB⟩ := hrel
          by_cases hlt : k < s.size
          · have hlt2 : k + 1 < s.size := by omega
            have HT := hide (take_two s k hlt2)
            have HSp := hide (split_two s k hlt2)
            generalize hA : s[k] = a at *
            generalize hBq : s[k + 1] = b at *
            have HD0 := hide (fig_index a)
            have HD1 := hide (fig_index b)
            by_cases hg : digV a < 16 ∧ digV b < 16
            · have HN : Hid (unhex (s.data.toList.take (k + 2)) = some (x ++ [UInt8.ofNat (16 * digV a + digV b)])) := by show _ = _; rw [HT.out, unhex_two a b _ _ HU.out, if_pos hg]
              have hlt' : 16 * digV a + digV b < 256 := by omega
              rw [if_pos hg.1] at HD0
              rw [if_pos hg.2] at HD1
              have hor := hi_lo _ _ hg.1 hg.2
              obtain ⟨hg1, hg2⟩ := hg
              generalize digV a = p at *
              generalize digV b = q at *
              have p0 : ¬ (p : Int) < 0 := by omega
              have q0 : ¬ (q : Int) < 0 := by omega
              have p1 : (p : Int) ≤ 15 := by omega
              have q1 : (q : Int) ≤ 15 := by omega
              have p2 : (0 : Int) ≤ (p : Int) := by omega
              have q2 : (0 : Int) ≤ (q : Int) := by omega
              have HC1 : Hid (∀ c, Calls Tryd.prog 41 #[.pointer (some ⟨w.heap.size, 0, none⟩), .int .u8 c] wr fun e w' => e = .returned .nilIface ∧ BAt w.heap.size w.heap.size (.pointer (some ⟨w.heap.size, 0, none⟩)) (Lib.byteCells x ++ [.int .u8 c]) w' ∧ Below w.heap.size wr w') := fun c =>
                writeByte_any _ _ _ c wr HB.out.1 (by rw [Lib.byteCells_length]; omega) HB.out.2.size
              go_wp2_with (first
                | (go_at_call 40; (first | (with_reducible refine (HD0.out _).mono ?_) | (with_reducible refine (HD1.out _).mono ?_)); rintro e w2 ⟨rfl, rfl⟩)
                | (go_at_call 41; refine (HC1.out _).mono ?_; rintro e w1 ⟨rfl, hI1, hB1⟩; have HI1 := hidB hI1; have HB1 := hidB hB1; clear hI1 hB1))
              go_roundw
              case rel =>
                have h := HI1.out
                --@@2
                refine ⟨k + 2, x ++ [UInt8.ofNat (16 * p + q)], by omega, by omega, by simp; omega, by go_num, HN, Or.inr ?_, HB.out.2.trans HB1.out⟩
                rw [← byte_cells x _ hlt']
                exact h
              case measure => simp [intOf]; omega
            · have HN : Hid (dataV s = none) := by
                show _ = _
                rw [HV.out, HSp.out, unhex_none a b _ _ _ HU.out hg]; rfl
              clear HV
              by_cases ha : digV a < 16
              · have hb : ¬ digV b < 16 := fun h => hg ⟨ha, h⟩
                rw [if_pos ha] at HD0
                rw [if_neg hb] at HD1
                clear hg hb ha
                generalize digV a = p at *
                have p0 : ¬ (p : Int) < 0 := by omega
                go_wp2_with (go_at_call 40; (first | (with_reducible refine (HD0.out _).mono ?_) | (with_reducible refine (HD1.out _).mono ?_)); rintro e w2 ⟨rfl, rfl⟩)
                go_ret2
                exact ⟨by rw [HN.out]; rfl, HB.out.2⟩
              · rw [if_neg ha] at HD0
                clear hg ha
                generalize (if digV b < 16 then (digV b : Int) else -1) = q at *
                go_wp2_with (go_at_call 40; (first | (with_reducible refine (HD0.out _).mono ?_) | (with_reducible refine (HD1.out _).mono ?_)); rintro e w2 ⟨rfl, rfl⟩)
                go_ret2
                exact ⟨by rw [HN.out]; rfl, HB.out.2⟩
          · have he : k = s.size := by omega
            subst he
            rw [List.take_of_length_le (by simp)] at HU
            go_wp2_with (go_at_call 42; refine (Tryd.Builder_String_any _ _ _ wr HB.out.1 HB.out.2.size).mono ?_; rintro e w1 ⟨rfl, hB1⟩; have HB1 := hidB hB1; clear hB1)
            go_ret2
            exact ⟨by rw [HV.out, HU.out]; rfl, HB.out.2.trans HB1.out⟩

end Go.Proofs.YtkidfflmbfnogaaDoor
