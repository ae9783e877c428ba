/- Texts: paths and bytes, written by the specification. -/
import Derived.Test.YtigammadhpgahaaDoorProg
import Derived.Test.YtigammadhpgahaaDoorLow
import Derived.Test.YtigammadhpgahaaDoorTxtP
import Derived.Test.YtigammadhpgahaaDoorBld
import Derived.Deep.QuietTactic
import Derived.BigQuiet
import Derived.Deep.RegionWith
namespace Go.Proofs.YtigammadhpgahaaDoor
open Go.RowKit

/-! ### Bytes in figures -/
def fig (n : Nat) : UInt8 := if n < 10 then UInt8.ofNat (48 + n) else UInt8.ofNat (87 + n)
def hexL (l : List UInt8) : List UInt8 := l.flatMap fun b => [fig (b.toNat / 16), fig (b.toNat % 16)]
def dataL (b : ByteArray) : List UInt8 := if b.size = 0 then [45] else hexL b.data.toList

theorem byte_div (b : UInt8) : ∃ q : Nat, q < 16 ∧ IntKind.u8.wrap ((b.toNat : Int) / 16) = (q : Int) ∧ Hid (q = b.toNat / 16) := by
  have h := b.toNat_lt
  refine ⟨b.toNat / 16, by omega, ?_, rfl⟩
  have e : ((b.toNat : Int) / 16) = ((b.toNat / 16 : Nat) : Int) := by omega
  rw [e]
  simp [IntKind.wrap, IntKind.signed, IntKind.bits]
  omega
theorem byte_mod (b : UInt8) : ∃ q : Nat, q < 16 ∧ IntKind.u8.wrap ((b.toNat : Int) % 16) = (q : Int) ∧ Hid (q = b.toNat % 16) := by
  have h := b.toNat_lt
  refine ⟨b.toNat % 16, by omega, ?_, rfl⟩
  have e : ((b.toNat : Int) % 16) = ((b.toNat % 16 : Nat) : Int) := by omega
  rw [e]
  simp [IntKind.wrap, IntKind.signed, IntKind.bits]
  omega
theorem wrap_succ (q : Nat) (h : q < 16) : IntKind.u8.wrap ((q : Int) + 1) = (q : Int) + 1 := by
  simp [IntKind.wrap, IntKind.signed, IntKind.bits]
  omega

abbrev FIG : ByteArray := ⟨#[48, 49, 50, 51, 52, 53, 54, 55, 56, 57, 97, 98, 99, 100, 101, 102]⟩
theorem fig_ext (q : Nat) (h : q < 16) : FIG.extract q (q + 1) = tx [fig q] := by
  have : ∀ q : Fin 16, FIG.extract q.1 (q.1 + 1) = tx [fig q.1] := by decide
  exact this ⟨q, h⟩
theorem hex_succ (d : ByteArray) (k : Nat) (h : k < d.size) {q r : Nat} (hq : q = d[k].toNat / 16) (hr : r = d[k].toNat % 16) : tx (hexL (d.data.toList.take (k + 1))) = tx (hexL (d.data.toList.take k)) ++ FIG.extract q (q + 1) ++ FIG.extract r (r + 1) := by
  have hb := d[k].toNat_lt
  have hl : k < d.data.toList.length := by simpa using h
  rw [fig_ext q (by omega), fig_ext r (by omega), tx_append, tx_append, List.take_succ_eq_append_getElem hl]
  congr 2
  have e : d.data.toList[k] = d[k] := by simp [ByteArray.getElem_eq_getElem_data]
  simp [hexL, List.flatMap_append, hq, hr, e]
theorem hex_ne (d : ByteArray) (h : d.size ≠ 0) : (tx (hexL d.data.toList)).toList.isEmpty = false := by
  obtain ⟨⟨l⟩⟩ := d
  cases l with
  | nil => exact absurd rfl h
  | cons x r => rw [ByteArray.toList_eq]; simp [hexL]
theorem ext_size (q : Nat) (h : q < 16) : (FIG.extract q (q + 1)).size = 1 := by rw [fig_ext q h]; rfl

set_option maxHeartbeats 1000000 in
theorem l1Hex_any (d : ByteArray) (w : World) (hd : d.size ≤ 24) :
    Calls Tryd.prog 14 #[.string d] w fun e w' => e = .returned (.string (tx (dataL d))) ∧ Below w.heap.size w w' := by
  go_enter Tryd.func14, Tryd.ntmps14
  go_wp2_with fail
  go_loopw [3, 4] (fun x i wr => ∃ (k : Nat) (s : ByteArray), k ≤ d.size ∧ i = .int .i64 k ∧ x = .string s ∧ s.size ≤ 2 * k ∧ Hid (s = tx (hexL (d.data.toList.take k))) ∧ Hid (Below w.heap.size w wr)) (fun _ i _ => d.size - (intOf i).toNat)
  case atStart => exact ⟨0, _, Nat.zero_le _, rfl, rfl, Nat.le_refl _, rfl, Below.refl _ _⟩
  case round =>
    obtain ⟨k, s, hk, rfl, rfl, hsz, HS, HB⟩ := hrel
    by_cases hlt : k < d.size
    · have hltI : (k : Int) < (d.size : Int) := by omega
      obtain ⟨q, hq, hw1, HQ⟩ := byte_div d[k]
      have hw3 := wrap_succ q (by omega)
      have hq1 : (q : Int) + 1 ≤ 16 := by omega
      have HX : Hid (tx (hexL (d.data.toList.take (k + 1))) = s ++ FIG.extract q (q + 1) ++ FIG.extract (d[k].toNat % 16) (d[k].toNat % 16 + 1) ∧ (s ++ FIG.extract q (q + 1) ++ FIG.extract (d[k].toNat % 16) (d[k].toNat % 16 + 1)).size ≤ 2 * (k + 1)) := by
        refine ⟨by rw [HS.out]; exact hex_succ d k hlt HQ.out rfl, ?_⟩
        rw [ByteArray.size_append, ByteArray.size_append, ext_size q hq, ext_size _ (by omega)]
        omega
      go_wp2_with fail
      go_quiet (fail)
      go_wp2_with fail
      go_roundw
      case rel => exact ⟨k + 1, _, by omega, by go_num, rfl, HX.out.2, HX.out.1.symm, below_drewN HB.out _⟩
      case measure => simp [intOf]; omega
    · have HE : Hid (s = tx (hexL d.data.toList)) := by show _ = _; rw [HS.out, List.take_of_length_le (by simp; omega)]
      by_cases h0 : d.size = 0
      · have hse : s.toList.isEmpty = true := by
          rw [HE.out, ByteArray.toList_eq]
          obtain ⟨⟨l⟩⟩ := d
          cases l with
          | nil => rfl
          | cons x r => exact absurd h0 (by simp [ByteArray.size])
        have HD : Hid (dataL d = [45]) := by show _ = _; rw [dataL, if_pos h0]
        go_wp2_with fail
        go_ret
        exact ⟨by rw [HD.out]; rfl, HB.out⟩
      · have hne : s.toList.isEmpty = false := by
          rw [HE.out]
          exact hex_ne d h0
        have HD : Hid (dataL d = hexL d.data.toList) := by show _ = _; rw [dataL, if_neg h0]
        go_wp2_with fail
        go_ret
        exact ⟨by rw [HD.out, ← HE.out]; rfl, HB.out⟩

end Go.Proofs.YtigammadhpgahaaDoor
