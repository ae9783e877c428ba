/- spec.l1Digit, spec.l1Bytes. -/
import Derived.Maps.AppendAt
import Derived.Laws.BytesArg
import Derived.WalkSpells
import Derived.Test.YtkidfflmbfnogaaDoorLow
import Derived.Test.YtkidfflmbfnogaaDoorOwnR
import Derived.Test.YtkidfflmbfnogaaDoorHex
import Derived.Test.YtkidfflmbfnogaaDoorCutS
namespace Go.Proofs.YtkidfflmbfnogaaDoor
open Go.RowKit

theorem retI {k : IntKind} {a b : Int} (h : a = b) : Ending.returned (.int k a) = .returned (.int k b) := by rw [h]

set_option maxHeartbeats 1000000 in
theorem l1Digit_any (c : UInt8) (w : World) : Calls Tryd.prog 29 #[.int .u8 c.toNat] w fun e w' => e = .returned (.int .i64 (digV c : Nat)) ∧ w' = w := by
  have hc := c.toNat_lt
  by_cases h1 : 48 ≤ c.toNat ∧ c.toNat ≤ 57
  · have HD : Hid ((digV c : Int) = (c.toNat : Int) - 48) := by show _ = _; unfold digV; rw [if_pos h1]; omega
    have a1 : (48 : Int) ≤ (c.toNat : Int) := by omega
    have a2 : (c.toNat : Int) ≤ 57 := by omega
    go_enter Tryd.func29, Tryd.ntmps29
    go_wp2
    go_ret
    exact ⟨retI HD.out.symm, rfl⟩
  · by_cases h2 : 97 ≤ c.toNat ∧ c.toNat ≤ 102
    · have HD : Hid ((digV c : Int) = (c.toNat : Int) - 97 + 10) := by show _ = _; unfold digV; rw [if_neg h1, if_pos h2]; omega
      have a1 : (97 : Int) ≤ (c.toNat : Int) := by omega
      have a2 : (c.toNat : Int) ≤ 102 := by omega
      have a3 : ¬ (c.toNat : Int) ≤ 57 := by omega
      have a4 : (48 : Int) ≤ (c.toNat : Int) := by omega
      go_enter Tryd.func29, Tryd.ntmps29
      go_wp2
      go_ret
      exact ⟨retI HD.out.symm, rfl⟩
    · have HD : Hid ((digV c : Int) = 99) := by show _ = _; unfold digV; rw [if_neg h1, if_neg h2]; rfl
      have a1 : ¬ (48 : Int) ≤ (c.toNat : Int) ∨ (48 : Int) ≤ (c.toNat : Int) ∧ ¬ (c.toNat : Int) ≤ 57 := by omega
      have a2 : ¬ (97 : Int) ≤ (c.toNat : Int) ∨ (97 : Int) ≤ (c.toNat : Int) ∧ ¬ (c.toNat : Int) ≤ 102 := by omega
      rcases a1 with a1 | ⟨a1, a1'⟩
      all_goals
        rcases a2 with a2 | ⟨a2, a2'⟩
        all_goals
          go_enter Tryd.func29, Tryd.ntmps29
          go_wp2
          go_ret
          exact ⟨retI HD.out.symm, rfl⟩

theorem info_u8 : ∃ i, Tryd.prog.info? 5 = some i ∧ i.zero = some (.int .u8 0) ∧ i.size = 1 ∧ i.bytes = 1 := by
  have h : (Tryd.prog.info? 5).map (fun i => (i.zero, i.size, i.bytes)) = some (some (.int .u8 0), 1, 1) := by kernel_rfl
  obtain ⟨i, hi, hz⟩ := Option.map_eq_some_iff.1 h
  simp only [Prod.mk.injEq] at hz
  exact ⟨i, hi, hz.1, hz.2.1, hz.2.2⟩
theorem byte_row {w : World} {base : Nat} {v : Value} {x : List UInt8} {n : Nat} (h : w.ownsRow base 5 1 v (x.length + 1) (Lib.byteCells x ++ [.int .u8 (n : Int)])) (hn : n < 256) : w.ownsRow base 5 1 v (x ++ [UInt8.ofNat n]).length (Lib.byteCells (x ++ [UInt8.ofNat n])) := by
  have e : Lib.byteCells (x ++ [UInt8.ofNat n]) = Lib.byteCells x ++ [.int .u8 (n : Int)] := by
    simp only [Lib.byteCells, List.map_append, List.map_cons, List.map_nil]
    congr 3
    rw [UInt8.toNat_ofNat']
    omega
  rw [e]; simpa using h
set_option maxRecDepth 100000 in
theorem bytes_conv {w : World} {base g cap : Nat} {x : List UInt8} (h : w.ownsRow base 5 1 (.slice (some ⟨g, 0, none⟩) x.length cap) x.length (Lib.byteCells x)) :
    Sem.run Tryd.prog (convert 57 9 (.slice (some ⟨g, 0, none⟩) x.length cap)) w = .ok (.string (ofL x)) w := by
  have hc := run_convert_bytes_arg (P := Tryd.prog) w 57 5 Tryd.underlying57 Tryd.underlying5 g 0 x.length cap (x.map fun b => (b.toNat : Int)) (by simp) (fun i hi => by
    have := h.cellAt i (by omega)
    rw [Nat.zero_add, this, Lib.byteCells, List.getElem?_map, List.getElem?_eq_getElem hi]
    simp [List.getD, hi]) 9 Tryd.underlying9
  rw [hc]
  congr 2
  unfold strOfNums
  simp [ofL]
  conv => rhs; rw [← List.map_id x]
  congr 1
  funext b
  simp

set_option maxRecDepth 100000 in
set_option maxHeartbeats 2000000 in
theorem l1Bytes_any (s : ByteArray) (w : World) (hs : s.size ≤ 1048576) :
    Calls Tryd.prog 18 #[.string s] w fun e w' => e = .returned (.tuple #[.string ((bytesV s).getD ⟨#[]⟩), .bool (bytesV s).isSome]) ∧ Below w.heap.size w w' := by
  obtain ⟨iS, hiS', hzS, hsS, hbS⟩ := info_u8
  have hiS := hide hiS'
  clear hiS'
  by_cases hd : s = ⟨#[45]⟩
  · subst hd
    go_enter Tryd.func18, Tryd.ntmps18
    go_wp2
    go_ret2
    exact ⟨rfl, (Below.refl _ _).alloc (Nat.le_refl _) _⟩
  · have d1 : ¬ s.toList = [45] := fun e => hd (toList_inj (e.trans (by rw [Lib.toList_data])))
    have d2 : (s.toList == [45]) = false := beq_eq_false_iff_ne.2 d1
    by_cases h0 : s.size = 0
    · obtain rfl : s = ⟨#[]⟩ := by rw [← ofL_toL s, List.eq_nil_of_length_eq_zero (l := s.data.toList) (by simpa using h0)]
      go_enter Tryd.func18, Tryd.ntmps18
      go_wp2
      go_ret2
      exact ⟨rfl, (Below.refl _ _).alloc (Nat.le_refl _) _⟩
    · have HV : Hid (bytesV s = (unhex s.data.toList).map ofL) := by show _ = _; unfold bytesV; rw [if_neg hd, if_neg h0]
      have n1 : ¬ s.toList = [] := fun e => by
        rw [Lib.toList_data] at e
        have h5 : s.data.toList.length = s.size := by simp
        rw [e, List.length_nil] at h5
        exact h0 h5.symm
      have n2 : s.toList.isEmpty = false := by simpa using n1
      have n3 : (s.toList == []) = false := beq_eq_false_iff_ne.2 n1
      by_cases hodd : s.size % 2 = 1
      · have HN : Hid (bytesV s = none) := by
          show _ = _
          rw [HV.out]
          cases hu : unhex s.data.toList with
          | none => rfl
          | some x => have := unhex_len _ _ hu; simp at this; omega
        have o1 : (s.size : Int) % 2 = 1 := by omega
        clear HV hd
        go_enter Tryd.func18, Tryd.ntmps18
        go_wp2
        go_ret2
        exact ⟨by rw [HN.out]; rfl, (Below.refl _ _).alloc (Nat.le_refl _) _⟩
      · have o1 : ¬ (s.size : Int) % 2 = 1 := by omega
        have o2 : ((s.size : Int) % 2 == 1) = false := by simpa using o1
        clear hd
        go_enter Tryd.func18, Tryd.ntmps18
        go_wp2
        go_loopw [4, 5] (fun o i wr => ∃ (ov : Value) (k : Nat) (x : List UInt8), ov = o ∧ k ≤ s.size ∧ k % 2 = 0 ∧ 2 * x.length = k ∧ i = .int .i64 k ∧ Hid (unhex (s.data.toList.take k) = some x) ∧ Hid (wr.ownsRow w.heap.size 5 1 ov x.length (Lib.byteCells x)) ∧ Hid (Below w.heap.size w wr)) (fun _ i _ => s.size - (intOf i).toNat)
        case atStart => exact ⟨_, 0, [], rfl, Nat.zero_le _, rfl, rfl, rfl, rfl, own_none (Blk.new _ _ _) (Nat.le_refl _), (Below.refl _ _).alloc (Nat.le_refl _) _⟩
        case round =>
          obtain ⟨ov, k, x, hov, hk, hk2, hxl, rfl, HU, HO, HB⟩ := hrel
          subst hov
          have hsz : w.heap.size ≤ wr.heap.size := HB.out.size
          by_cases hlt : k < s.size
          · have hlt2 : k + 1 < s.size := by omega
            have HT := hide (take_two s k hlt2)
            have HSp := hide (split_two s k hlt2)
            have HD0 := hide (l1Digit_any s[k])
            have HD1 := hide (l1Digit_any s[k + 1])
            generalize hA : s[k] = a at *
            generalize hBq : s[k + 1] = b at *
            have ha99 : digV a ≤ 99 := by unfold digV; have := a.toNat_lt; split <;> (try split) <;> omega
            have hb99 : digV b ≤ 99 := by unfold digV; have := b.toNat_lt; split <;> (try split) <;> omega
            by_cases hg : digV a < 16 ∧ digV b < 16
            · have g1 : ¬ (15 : Int) < (digV a : Int) := by omega
              have g2 : ¬ (15 : Int) < (digV b : Int) := by omega
              have HN : Hid (unhex (s.data.toList.take (k + 2)) = some (x ++ [UInt8.ofNat (16 * digV a + digV b)])) := by show _ = _; rw [HT.out, unhex_two a b _ _ HU.out, if_pos hg]
              have hlt' : 16 * digV a + digV b < 256 := by omega
              clear HD0 HD1 hg
              have HD0 := hide (fun W => (l1Digit_any a W).mono (R' := fun e w' => e = .returned (.int .i64 (digV a : Nat)) ∧ W = w') fun e w' ⟨h1, h2⟩ => ⟨h1, h2.symm⟩)
              have HD1 := hide (fun W => (l1Digit_any b W).mono (R' := fun e w' => e = .returned (.int .i64 (digV b : Nat)) ∧ W = w') fun e w' ⟨h1, h2⟩ => ⟨h1, h2.symm⟩)
              generalize digV a = p at *
              generalize digV b = q at *
              have p0 : (0 : Int) ≤ (p : Int) := by omega
              have q0 : (0 : Int) ≤ (q : Int) := by omega
              have p1 : (p : Int) ≤ 15 := by omega
              have q1 : (q : Int) ≤ 15 := by omega
              go_wp2_with (first
                | (go_at_call 29; (first | (with_reducible refine (HD0.out _).mono ?_) | (with_reducible refine (HD1.out _).mono ?_)); rintro e w2 ⟨rfl, rfl⟩)
                | (at_builtin; refine wpList_append_own _ rfl _ _ 57 rfl w.heap.size 5 iS (.int .u8 0) 1 1 Tryd.underlying57 hiS.out hzS hsS hbS rfl (by decide) ov x.length (Lib.byteCells x) rfl (HO.out.alloc _) ⟨wr.heap.size, 0, none⟩ 1 1 [.int .u8 (16 * (p : Int) + (q : Int))] rfl (by simp) (cell_one_new _ _ _) (by simp [Value.oneCell']) (by unfold maxLen; omega) (by omega) (by simp; omega) ?_; intro v' w1 hown hgrow hnil; have HO1 := hide hown; have HG := hide hgrow; clear hown hgrow hnil))
              go_roundw
              case rel =>
                have ho := HO1.out
                rw [show (16 * (p : Int) + (q : Int)) = ((16 * p + q : Nat) : Int) from by omega] at ho
                refine ⟨v', k + 2, x ++ [UInt8.ofNat (16 * p + q)], rfl, by omega, by omega, by simp; omega, by go_num, HN, byte_row ho hlt', ?_⟩
                exact row_grown (HB.out.alloc hsz _) (HO.out.alloc _) (Nat.le_refl _) (by simp; omega) HG.out
              case measure => simp [intOf]; omega
            · have HN : Hid (bytesV s = none) := by
                show _ = _
                rw [HV.out, HSp.out, unhex_none a b _ _ _ HU.out hg]; rfl
              have hq : (15 : Int) < (digV a : Int) ∨ (¬ (15 : Int) < (digV a : Int) ∧ (15 : Int) < (digV b : Int)) := by omega
              clear HD0 HD1 hg HV
              have HD0 := hide (fun W => (l1Digit_any a W).mono (R' := fun e w' => e = .returned (.int .i64 (digV a : Nat)) ∧ W = w') fun e w' ⟨h1, h2⟩ => ⟨h1, h2.symm⟩)
              have HD1 := hide (fun W => (l1Digit_any b W).mono (R' := fun e w' => e = .returned (.int .i64 (digV b : Nat)) ∧ W = w') fun e w' ⟨h1, h2⟩ => ⟨h1, h2.symm⟩)
              generalize digV a = p at *
              generalize digV b = q at *
              rcases hq with g1 | ⟨g1, g2⟩
              all_goals
                go_wp2_with (go_at_call 29; (first | (with_reducible refine (HD0.out _).mono ?_) | (with_reducible refine (HD1.out _).mono ?_)); rintro e w2 ⟨rfl, rfl⟩)
                go_ret2
                exact ⟨by rw [HN.out]; rfl, HB.out⟩
          · have he : k = s.size := by omega
            subst he
            rw [List.take_of_length_le (by simp)] at HU
            obtain ⟨g, cap, rfl, _, _⟩ := ownsRow_at HO.out (by omega)
            have hcv := bytes_conv HO.out
            go_wp2
            go_ret2
            exact ⟨by rw [HV.out, HU.out]; rfl, HB.out⟩

end Go.Proofs.YtkidfflmbfnogaaDoor
