/- Paths: the program writes one. -/
import Derived.Test.YtigammadhpgahaaDoorTxtP
import Derived.Test.YtigammadhpgahaaDoorShelf
namespace Go.Proofs.YtigammadhpgahaaDoor
open Go.RowKit

theorem join_names : ∀ (l : List ByteArray), l ≠ [] → 47 :: Lib.join (l.map (·.data.toList)) [47] = namesL l
  | [], h => absurd rfl h
  | [x], _ => by simp [Lib.join, namesL]
  | x :: y :: r, _ => by
    have h := join_names (y :: r) (by simp)
    have e : namesL (x :: y :: r) = 47 :: (x.data.toList ++ namesL (y :: r)) := by simp [namesL]
    rw [e, ← h]
    simp [Lib.join]

set_option maxHeartbeats 1000000 in
theorem pathText_any (l : List ByteArray) (pa : Option Addr) (pc : Nat) (w : World) (lo hi : Nat) (hv : StrsAt w lo hi (.slice pa l.length pc) l) (hhi : hi ≤ w.heap.size) (hcap : l.length ≤ pc) (hl : l.length ≤ 4) (hs : ∀ x ∈ l, x.size ≤ 5) :
    Calls Tryd.prog 17 #[.slice pa l.length pc] w fun e w' => e = .returned (.string (tx (pathL l))) ∧ Below w.heap.size w w' := by
  obtain ⟨a, cap, he, _, _, hc⟩ := hv
  simp only [Value.slice.injEq, true_and] at he
  obtain ⟨rfl, rfl⟩ := he
  by_cases h0 : l = []
  · subst h0
    go_enter Tryd.func17, Tryd.ntmps17
    go_wp2_with fail
    go_ret
    exact ⟨rfl, Below.refl _ _⟩
  · have hpos : 0 < l.length := List.length_pos_iff.2 h0
    obtain ⟨b, o, rfl, _, hb2, hcell⟩ := hc hpos
    have hlen := namesL_len l hs
    have HJ : Hid (47 :: Lib.join (l.map (·.data.toList)) [47] = namesL l) := join_names l h0
    have hjl : (Lib.join (l.map (·.data.toList)) [47]).length ≤ 24 := by
      have h := congrArg List.length HJ.out
      simp only [List.length_cons] at h
      omega
    have hJ := Tryd.strings_Join b o pc l ⟨#[47]⟩ w (fun j x hx => by
      obtain ⟨hj, rfl⟩ := List.getElem?_eq_some_iff.1 hx
      exact hcell j hj) (by omega) (by omega) hcap (by show (Lib.join (l.map (·.data.toList)) [47]).length ≤ _; omega)
    have HC : Hid (Calls Tryd.prog 20 #[.slice (some ⟨b, o, none⟩) l.length pc, .string ⟨#[47]⟩] w fun e w' => e = .returned (.string (tx (Lib.join (l.map (·.data.toList)) [47]))) ∧ Below w.heap.size w w') := hJ
    have hsz : (tx (Lib.join (l.map (·.data.toList)) [47])).size ≤ 24 := by
      show (Lib.join (l.map (·.data.toList)) [47]).toArray.size ≤ 24
      simpa using hjl
    have hposI : (0 : Int) < (l.length : Int) := by omega
    have HP : Hid (tx (pathL l) = ⟨#[47]⟩ ++ tx (Lib.join (l.map (·.data.toList)) [47])) := by
      show _ = _
      have e1 : (⟨#[47]⟩ : ByteArray) = tx [47] := rfl
      rw [pathL, if_neg h0, e1, tx_append, ← HJ.out]
      rfl
    generalize tx (Lib.join (l.map (·.data.toList)) [47]) = sj at HC hsz HP
    clear hJ hjl HJ hcell hc
    go_enter Tryd.func17, Tryd.ntmps17
    go_wp2_with (go_at_call 20; refine HC.out.mono ?_; rintro e w1 ⟨rfl, hB1⟩; have HB1 : Hid (Below w.heap.size w w1) := hB1; clear hB1)
    go_ret
    exact ⟨by rw [HP.out]; rfl, HB1.out⟩

end Go.Proofs.YtigammadhpgahaaDoor
