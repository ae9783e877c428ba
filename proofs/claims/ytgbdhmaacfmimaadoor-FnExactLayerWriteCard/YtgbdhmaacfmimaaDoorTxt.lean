/- Texts: paths and bytes, written by the specification. -/
import Derived.Test.YtgbdhmaacfmimaaDoorProg
import Derived.Test.YtgbdhmaacfmimaaDoorEnts
import Derived.Test.YtgbdhmaacfmimaaDoorBld
import Derived.Deep.QuietTactic
import Derived.BigQuiet
import Derived.Deep.RegionWith
namespace Go.Proofs.YtgbdhmaacfmimaaDoor
open Go.RowKit

/-- A text of these bytes. -/
abbrev tx (l : List UInt8) : ByteArray := ⟨l.toArray⟩
theorem tx_append (a b : List UInt8) : tx a ++ tx b = tx (a ++ b) := by
  apply ByteArray.ext
  simp [tx]
theorem tx_data (b : ByteArray) : tx b.data.toList = b := by cases b; rfl

/-- A path's text but for the root's. -/
def namesL (l : List ByteArray) : List UInt8 := l.flatMap fun x => 47 :: x.data.toList
def pathL (l : List ByteArray) : List UInt8 := if l = [] then [47] else namesL l

theorem namesL_succ (l : List ByteArray) (k : Nat) (h : k < l.length) : tx (namesL (l.take (k + 1))) = tx (namesL (l.take k)) ++ ⟨#[47]⟩ ++ l[k] := by
  have e1 : (⟨#[47]⟩ : ByteArray) = tx [47] := rfl
  rw [List.take_succ_eq_append_getElem h, e1, tx_append, ← tx_data l[k], tx_append]
  congr 1
  simp [namesL, List.flatMap_append]
theorem names_ne (l : List ByteArray) (h : l ≠ []) : (tx (namesL l)).toList.isEmpty = false := by
  cases l with
  | nil => exact absurd rfl h
  | cons x r => rw [ByteArray.toList_eq]; simp [namesL]
theorem size3 (a b : ByteArray) (x : UInt8) : (a ++ ⟨#[x]⟩ ++ b).size = a.size + 1 + b.size := by
  rw [ByteArray.size_append, ByteArray.size_append]; rfl

set_option maxHeartbeats 1000000 in
theorem l3Name_any (l : List ByteArray) (pa : Option Addr) (pc : Nat) (w : World) (lo hi : Nat) (hv : StrsAt w lo hi (.slice pa l.length pc) l) (hl : l.length ≤ 4) (hs : ∀ (i : Nat) (h : i < l.length), l[i].size ≤ 5) :
    Calls Tryd.prog 23 #[.slice pa l.length pc] w fun e w' => e = .returned (.string (tx (pathL l))) ∧ w' = w := by
  obtain ⟨a, cap, he, _, _, hc⟩ := hv
  simp only [Value.slice.injEq, true_and] at he
  obtain ⟨rfl, rfl⟩ := he
  go_enter Tryd.func23, Tryd.ntmps23
  go_wp2_with fail
  go_loop [3, 4] (fun x i => ∃ (k : Nat) (s : ByteArray), k ≤ l.length ∧ i = .int .i64 k ∧ x = .string s ∧ s.size ≤ 6 * k ∧ Hid (s = tx (namesL (l.take k)))) (fun _ i => l.length - (intOf i).toNat)
  case atStart => exact ⟨0, _, Nat.zero_le _, rfl, rfl, Nat.le_refl _, rfl⟩
  case round =>
    obtain ⟨k, s, hk, rfl, rfl, hsz, HS⟩ := hrel
    by_cases hlt : k < l.length
    · obtain ⟨b, o, rfl, _, _, hcell⟩ := hc (by omega)
      have hck := hcell k hlt
      have hsk := hs k hlt
      have hltI : (k : Int) < (l.length : Int) := by omega
      have HN : Hid (tx (namesL (l.take (k + 1))) = tx (namesL (l.take k)) ++ ⟨#[47]⟩ ++ l[k]) := namesL_succ l k hlt
      clear hc hcell
      go_wp2_with fail
      go_round
      case rel => exact ⟨k + 1, _, by omega, by go_num, rfl, by rw [size3]; omega, by show _ = _; rw [HN.out, HS.out]⟩
      case measure => simp [intOf]; omega
    · have HE : Hid (s = tx (namesL l)) := by show _ = _; rw [HS.out, List.take_of_length_le (by omega)]
      by_cases h0 : l = []
      · subst h0
        have h1 := HE.out
        subst h1
        go_wp2_with fail
        go_ret
        exact ⟨rfl, rfl⟩
      · have hne : s.toList.isEmpty = false := by
          rw [HE.out]
          exact names_ne l h0
        go_wp2_with fail
        go_ret
        exact ⟨by rw [HE.out, pathL, if_neg h0]; rfl, rfl⟩

/-! ### Bytes in figures -/
def fig (n : Nat) : UInt8 := if n < 10 then UInt8.ofNat (48 + n) else UInt8.ofNat (87 + n)
def hexL (l : List UInt8) : List UInt8 := l.flatMap fun b => [fig (b.toNat / 16), fig (b.toNat % 16)]
def dataL (b : ByteArray) : List UInt8 := if b.size = 0 then [45] else hexL b.data.toList

theorem byte_div (b : UInt8) : ∃ q : Nat, q < 16 ∧ IntKind.u8.wrap ((b.toNat : Int) / 16) = (q : Int) ∧ Hid (q = b.toNat / 16) := by
  have h := b.toNat_lt
  refine ⟨b.toNat / 16, by omega, ?_, rfl⟩
  have e : ((b.toNat : Int) / 16) = ((b.toNat / 16 : Nat) : Int) := by omega
  rw [e]
  simp [IntKind.wrap, IntKind.signed, IntKind.bits]
  omega
theorem byte_mod (b : UInt8) : ∃ q : Nat, q < 16 ∧ IntKind.u8.wrap ((b.toNat : Int) % 16) = (q : Int) ∧ Hid (q = b.toNat % 16) := by
  have h := b.toNat_lt
  refine ⟨b.toNat % 16, by omega, ?_, rfl⟩
  have e : ((b.toNat : Int) % 16) = ((b.toNat % 16 : Nat) : Int) := by omega
  rw [e]
  simp [IntKind.wrap, IntKind.signed, IntKind.bits]
  omega
theorem wrap_succ (q : Nat) (h : q < 16) : IntKind.u8.wrap ((q : Int) + 1) = (q : Int) + 1 := by
  simp [IntKind.wrap, IntKind.signed, IntKind.bits]
  omega

abbrev FIG : ByteArray := ⟨#[48, 49, 50, 51, 52, 53, 54, 55, 56, 57, 97, 98, 99, 100, 101, 102]⟩
theorem fig_ext (q : Nat) (h : q < 16) : FIG.extract q (q + 1) = tx [fig q] := by
  have : ∀ q : Fin 16, FIG.extract q.1 (q.1 + 1) = tx [fig q.1] := by decide
  exact this ⟨q, h⟩
theorem hex_succ (d : ByteArray) (k : Nat) (h : k < d.size) {q r : Nat} (hq : q = d[k].toNat / 16) (hr : r = d[k].toNat % 16) : tx (hexL (d.data.toList.take (k + 1))) = tx (hexL (d.data.toList.take k)) ++ FIG.extract q (q + 1) ++ FIG.extract r (r + 1) := by
  have hb := d[k].toNat_lt
  have hl : k < d.data.toList.length := by simpa using h
  rw [fig_ext q (by omega), fig_ext r (by omega), tx_append, tx_append, List.take_succ_eq_append_getElem hl]
  congr 2
  have e : d.data.toList[k] = d[k] := by simp [ByteArray.getElem_eq_getElem_data]
  simp [hexL, List.flatMap_append, hq, hr, e]
theorem hex_ne (d : ByteArray) (h : d.size ≠ 0) : (tx (hexL d.data.toList)).toList.isEmpty = false := by
  obtain ⟨⟨l⟩⟩ := d
  cases l with
  | nil => exact absurd rfl h
  | cons x r => rw [ByteArray.toList_eq]; simp [hexL]
theorem ext_size (q : Nat) (h : q < 16) : (FIG.extract q (q + 1)).size = 1 := by rw [fig_ext q h]; rfl

set_option maxHeartbeats 1000000 in
theorem l1Hex_any (d : ByteArray) (w : World) (hd : d.size ≤ 24) :
    Calls Tryd.prog 25 #[.string d] w fun e w' => e = .returned (.string (tx (dataL d))) ∧ Below w.heap.size w w' := by
  go_enter Tryd.func25, Tryd.ntmps25
  go_wp2_with fail
  go_loopw [3, 4] (fun x i wr => ∃ (k : Nat) (s : ByteArray), k ≤ d.size ∧ i = .int .i64 k ∧ x = .string s ∧ s.size ≤ 2 * k ∧ Hid (s = tx (hexL (d.data.toList.take k))) ∧ Hid (Below w.heap.size w wr)) (fun _ i _ => d.size - (intOf i).toNat)
  case atStart => exact ⟨0, _, Nat.zero_le _, rfl, rfl, Nat.le_refl _, rfl, Below.refl _ _⟩
  case round =>
    obtain ⟨k, s, hk, rfl, rfl, hsz, HS, HB⟩ := hrel
    by_cases hlt : k < d.size
    · have hltI : (k : Int) < (d.size : Int) := by omega
      obtain ⟨q, hq, hw1, HQ⟩ := byte_div d[k]
      have hw3 := wrap_succ q (by omega)
      have hq1 : (q : Int) + 1 ≤ 16 := by omega
      have HX : Hid (tx (hexL (d.data.toList.take (k + 1))) = s ++ FIG.extract q (q + 1) ++ FIG.extract (d[k].toNat % 16) (d[k].toNat % 16 + 1) ∧ (s ++ FIG.extract q (q + 1) ++ FIG.extract (d[k].toNat % 16) (d[k].toNat % 16 + 1)).size ≤ 2 * (k + 1)) := by
        refine ⟨by rw [HS.out]; exact hex_succ d k hlt HQ.out rfl, ?_⟩
        rw [ByteArray.size_append, ByteArray.size_append, ext_size q hq, ext_size _ (by omega)]
        omega
      go_wp2_with fail
      go_quiet (fail)
      go_wp2_with fail
      go_roundw
      case rel => exact ⟨k + 1, _, by omega, by go_num, rfl, HX.out.2, HX.out.1.symm, below_drewN HB.out _⟩
      case measure => simp [intOf]; omega
    · have HE : Hid (s = tx (hexL d.data.toList)) := by show _ = _; rw [HS.out, List.take_of_length_le (by simp; omega)]
      by_cases h0 : d.size = 0
      · have hse : s.toList.isEmpty = true := by
          rw [HE.out, ByteArray.toList_eq]
          obtain ⟨⟨l⟩⟩ := d
          cases l with
          | nil => rfl
          | cons x r => exact absurd h0 (by simp [ByteArray.size])
        have HD : Hid (dataL d = [45]) := by show _ = _; rw [dataL, if_pos h0]
        go_wp2_with fail
        go_ret
        exact ⟨by rw [HD.out]; rfl, HB.out⟩
      · have hne : s.toList.isEmpty = false := by
          rw [HE.out]
          exact hex_ne d h0
        have HD : Hid (dataL d = hexL d.data.toList) := by show _ = _; rw [dataL, if_neg h0]
        go_wp2_with fail
        go_ret
        exact ⟨by rw [HD.out, ← HE.out]; rfl, HB.out⟩

end Go.Proofs.YtgbdhmaacfmimaaDoor
