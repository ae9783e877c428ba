/- Texts of paths; the specification writes one. -/
import Derived.Test.YtigammadhpgahaaDoorLow
import Derived.Deep.QuietTactic
import Derived.BigQuiet
import Derived.Deep.RegionWith
namespace Go.Proofs.YtigammadhpgahaaDoor
open Go.RowKit

/-- A text of these bytes. -/
abbrev tx (l : List UInt8) : ByteArray := ⟨l.toArray⟩

theorem tx_append (a b : List UInt8) : tx a ++ tx b = tx (a ++ b) := by
  apply ByteArray.ext
  simp [tx]

theorem tx_data (b : ByteArray) : tx b.data.toList = b := by cases b; rfl

/-- A path's text but for the root's. -/
def namesL (l : List ByteArray) : List UInt8 := l.flatMap fun x => 47 :: x.data.toList

def pathL (l : List ByteArray) : List UInt8 := if l = [] then [47] else namesL l

theorem namesL_succ (l : List ByteArray) (k : Nat) (h : k < l.length) : tx (namesL (l.take (k + 1))) = tx (namesL (l.take k)) ++ ⟨#[47]⟩ ++ l[k] := by
  have e1 : (⟨#[47]⟩ : ByteArray) = tx [47] := rfl
  rw [List.take_succ_eq_append_getElem h, e1, tx_append, ← tx_data l[k], tx_append]
  congr 1
  simp [namesL, List.flatMap_append]

theorem names_ne (l : List ByteArray) (h : l ≠ []) : (tx (namesL l)).toList.isEmpty = false := by
  cases l with
  | nil => exact absurd rfl h
  | cons x r => rw [ByteArray.toList_eq]; simp [namesL]

theorem size3 (a b : ByteArray) (x : UInt8) : (a ++ ⟨#[x]⟩ ++ b).size = a.size + 1 + b.size := by
  rw [ByteArray.size_append, ByteArray.size_append]; rfl

theorem namesL_len : ∀ (l : List ByteArray), (∀ x ∈ l, x.size ≤ 5) → (namesL l).length ≤ 6 * l.length
  | [], _ => Nat.le_refl _
  | x :: r, h => by
    have h1 := h x (by simp)
    have h2 := namesL_len r (fun y hy => h y (by simp [hy]))
    have e : (namesL (x :: r)).length = 1 + x.data.toList.length + (namesL r).length := by
      simp [namesL]; omega
    have e2 : x.data.toList.length = x.size := by simp
    rw [e, e2, List.length_cons]
    omega

theorem pathL_len (l : List ByteArray) (h : ∀ x ∈ l, x.size ≤ 5) (hl : l.length ≤ 4) : (tx (pathL l)).size ≤ 100 := by
  have h1 := namesL_len l h
  have : (pathL l).length ≤ 25 := by
    unfold pathL
    split
    · simp
    · omega
  show (pathL l).toArray.size ≤ 100
  simp; omega

theorem sizeA (a b : ByteArray) : (a ++ b).size = a.size + b.size := ByteArray.size_append

set_option maxHeartbeats 1000000 in
theorem l3Name_any (l : List ByteArray) (pa : Option Addr) (pc : Nat) (w : World) (lo hi : Nat) (hv : StrsAt w lo hi (.slice pa l.length pc) l) (hl : l.length ≤ 4) (hs : ∀ (i : Nat) (h : i < l.length), l[i].size ≤ 5) :
    Calls Tryd.prog 12 #[.slice pa l.length pc] w fun e w' => e = .returned (.string (tx (pathL l))) ∧ w' = w := by
  obtain ⟨a, cap, he, _, _, hc⟩ := hv
  simp only [Value.slice.injEq, true_and] at he
  obtain ⟨rfl, rfl⟩ := he
  go_enter Tryd.func12, Tryd.ntmps12
  go_wp2_with fail
  go_loop [3, 4] (fun x i => ∃ (k : Nat) (s : ByteArray), k ≤ l.length ∧ i = .int .i64 k ∧ x = .string s ∧ s.size ≤ 6 * k ∧ Hid (s = tx (namesL (l.take k)))) (fun _ i => l.length - (intOf i).toNat)
  case atStart => exact ⟨0, _, Nat.zero_le _, rfl, rfl, Nat.le_refl _, rfl⟩
  case round =>
    obtain ⟨k, s, hk, rfl, rfl, hsz, HS⟩ := hrel
    by_cases hlt : k < l.length
    · obtain ⟨b, o, rfl, _, _, hcell⟩ := hc (by omega)
      have hck := hcell k hlt
      have hsk := hs k hlt
      have hltI : (k : Int) < (l.length : Int) := by omega
      have HN : Hid (tx (namesL (l.take (k + 1))) = tx (namesL (l.take k)) ++ ⟨#[47]⟩ ++ l[k]) := namesL_succ l k hlt
      clear hc hcell
      go_wp2_with fail
      go_round
      case rel => exact ⟨k + 1, _, by omega, by go_num, rfl, by rw [size3]; omega, by show _ = _; rw [HN.out, HS.out]⟩
      case measure => simp [intOf]; omega
    · have HE : Hid (s = tx (namesL l)) := by show _ = _; rw [HS.out, List.take_of_length_le (by omega)]
      by_cases h0 : l = []
      · subst h0
        have h1 := HE.out
        subst h1
        go_wp2_with fail
        go_ret
        exact ⟨rfl, rfl⟩
      · have hne : s.toList.isEmpty = false := by
          rw [HE.out]
          exact names_ne l h0
        go_wp2_with fail
        go_ret
        exact ⟨by rw [HE.out, pathL, if_neg h0]; rfl, rfl⟩

end Go.Proofs.YtigammadhpgahaaDoor
