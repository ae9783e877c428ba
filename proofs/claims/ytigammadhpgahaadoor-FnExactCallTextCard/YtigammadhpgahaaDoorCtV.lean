/- Calls: both sides write the same text. -/
import Derived.Test.YtigammadhpgahaaDoorCtS
import Derived.Test.YtigammadhpgahaaDoorCtI
import Derived.Test.YtigammadhpgahaaDoorCallT
namespace Go.Proofs.YtigammadhpgahaaDoor
open Go.RowKit

theorem pathQ_parts {l : List ByteArray} (h : pathQ l = true) : (∀ x ∈ l, x.size ≤ 5) ∧ l.length ≤ 4 ∧ 1 ≤ l.length := by
  simp only [pathQ, Bool.and_eq_true, decide_eq_true_eq] at h
  refine ⟨fun x hx => ?_, by omega, by omega⟩
  have hnb := List.all_eq_true.1 h.1 x hx
  simp only [nameB, Bool.and_eq_true, decide_eq_true_eq] at hnb
  omega
theorem callB_parts (c : Cl) (h : callB c = true) : (1 ≤ c.kind ∧ c.kind ≤ 6) ∧ pathQ c.path = true ∧ (c.kind = 5 → pathQ c.to = true) ∧ (c.kind ≠ 4 ∧ c.kind ≠ 5 → 0 ≤ c.num ∧ c.num ≤ 24) := by
  unfold callB callQ at h
  split at h
  · rename_i hk
    simp only [Bool.and_eq_true, decide_eq_true_eq] at h
    exact ⟨by omega, by simpa [pathQ] using h.1, fun _ => by omega, fun _ => by omega⟩
  · split at h
    · rename_i hk
      simp only [Bool.and_eq_true, decide_eq_true_eq] at h
      exact ⟨by omega, by simpa [pathQ] using h.1, fun _ => by omega, fun _ => by omega⟩
    · split at h
      · rename_i hk
        exact ⟨by omega, h, fun _ => by omega, fun hh => by omega⟩
      · split at h
        · rename_i hk
          rw [Bool.and_eq_true] at h
          exact ⟨by omega, h.1, fun _ => h.2, fun hh => by omega⟩
        · cases h

/-- The parts of a call's text. -/
def spV (c : Cl) : ByteArray := if callB c = true then tx (pathL c.path) else ⟨#[]⟩
def stV5 (c : Cl) : ByteArray := if callB c = true ∧ c.kind = 5 then tx (pathL c.to) else ⟨#[]⟩
def snV (c : Cl) : ByteArray := if callB c = true ∧ c.kind ≠ 4 ∧ c.kind ≠ 5 then dgs c.num.toNat else ⟨#[]⟩
def sxV (c : Cl) : ByteArray := if callB c = true ∧ c.kind = 2 ∧ c.data.size ≤ 24 then tx (dataL c.data) else ⟨#[]⟩
/-- A call's text. -/
def textC (c : Cl) : ByteArray := if (callB c && !(decide (c.kind = 2) && decide (24 < c.data.size))) = true then textQ c.kind (spV c) (stV5 c) (snV c) (sxV c) else ⟨#[]⟩

theorem spV_len (c : Cl) : (spV c).size ≤ 100 := by
  unfold spV
  split
  · rename_i h
    obtain ⟨_, hp, _, _⟩ := callB_parts c h
    obtain ⟨h1, h2, _⟩ := pathQ_parts hp
    exact pathL_len _ h1 h2
  · exact Nat.zero_le _
theorem stV5_len (c : Cl) : (stV5 c).size ≤ 100 := by
  unfold stV5
  split
  · rename_i h
    obtain ⟨_, _, hp, _⟩ := callB_parts c h.1
    obtain ⟨h1, h2, _⟩ := pathQ_parts (hp h.2)
    exact pathL_len _ h1 h2
  · exact Nat.zero_le _
theorem snV_len (c : Cl) : (snV c).size ≤ 100 := by
  unfold snV
  split
  · rename_i h
    obtain ⟨_, _, _, hp⟩ := callB_parts c h.1
    have := dgs_size c.num.toNat (by have := hp h.2; omega)
    omega
  · exact Nat.zero_le _
theorem sxV_len (c : Cl) : (sxV c).size ≤ 100 := by
  unfold sxV
  split
  · rename_i h
    exact dataL_len _ h.2.2
  · exact Nat.zero_le _

theorem specCallText_any (c : Cl) (pa : Option Addr) (pc : Nat) (ta : Option Addr) (tc : Nat) (w : World) (lo hi : Nat) (hc : ClOk w lo hi c pa pc ta tc) (hhi : hi ≤ w.heap.size) :
    Calls Tryd.prog 5 #[aggC c pa pc ta tc] w fun e w' => e = .returned (.string (textC c)) ∧ Below w.heap.size w w' := by
  refine specText_at c.kind c.num c.path.length c.to.length c.data (spV c) (stV5 c) (snV c) (sxV c) pa pc ta tc (callB c) w (fun h => (callB_parts c h).1) hc.2.2 (spV_len c) (stV5_len c) (snV_len c) (sxV_len c) (fun o => ?_) (fun h W hW => ?_) (fun h h5 W hW => ?_) (fun h hk W => ?_) (fun h h2 h24 W => ?_)
  · exact l2CallOk_any c pa pc ta tc (w.alloc o) lo hi (hc.keep ((Below.refl w.heap.size w).alloc (Nat.le_refl _) o) hhi) (by simp; omega)
  · obtain ⟨h1, h2, _⟩ := pathQ_parts (callB_parts c h).2.1
    rw [spV, if_pos h]
    exact l3Name_any c.path pa pc W lo hi (hc.1.keep hW hhi) h2 (fun i hi => h1 _ (List.getElem_mem hi))
  · obtain ⟨h1, h2, _⟩ := pathQ_parts ((callB_parts c h).2.2.1 h5)
    rw [stV5, if_pos ⟨h, h5⟩]
    exact l3Name_any c.to ta tc W lo hi (hc.2.1.keep hW hhi) h2 (fun i hi => h1 _ (List.getElem_mem hi))
  · have hn := (callB_parts c h).2.2.2 hk
    rw [snV, if_pos ⟨h, hk⟩]
    have := l1Dec_any c.num.toNat c.num.toNat W (Nat.le_refl _) (by omega)
    rwa [Int.toNat_of_nonneg hn.1] at this
  · rw [sxV, if_pos ⟨h, h2, h24⟩]
    exact l1Hex_any c.data W h24

theorem dataText_all (d : ByteArray) (w : World) (hd : d.size ≤ 24) :
    Calls Tryd.prog 19 #[.string d] w fun e w' => e = .returned (.string (tx (dataL d))) ∧ Below w.heap.size w w' := by
  by_cases h0 : d.size = 0
  · have e : d = ⟨#[]⟩ := ByteArray.ext (Array.eq_empty_of_size_eq_zero h0)
    subst e
    go_enter Tryd.func19, Tryd.ntmps19
    go_wp2_with fail
    go_ret
    exact ⟨rfl, Below.refl _ _⟩
  · refine dataText_any d w hd ?_ h0
    rw [ByteArray.toList_eq]
    obtain ⟨⟨l⟩⟩ := d
    cases l with
    | nil => exact absurd rfl h0
    | cons x r => rfl

theorem implCallText_any (c : Cl) (pa : Option Addr) (pc : Nat) (ta : Option Addr) (tc : Nat) (w : World) (lo hi : Nat) (hc : ClOk w lo hi c pa pc ta tc) (hhi : hi ≤ w.heap.size) (hp : c.path.length ≤ pc) (ht : c.to.length ≤ tc) (hF : CFormsAt w) :
    Calls Tryd.prog 7 #[aggC c pa pc ta tc] w fun e w' => e = .returned (.string (textC c)) ∧ Below w.heap.size w w' := by
  refine implText_at c.kind c.num c.path.length c.to.length c.data (spV c) (stV5 c) (snV c) (sxV c) pa pc ta tc (callB c) w (fun h => (callB_parts c h).1) hc.2.2 (spV_len c) (stV5_len c) (snV_len c) (sxV_len c) hF (fun o => ?_) (fun h W hW => ?_) (fun h h5 W hW => ?_) (fun h hk W => ?_) (fun h h2 h24 W => ?_)
  · exact isCall_any c pa pc ta tc (w.alloc o) lo hi (hc.keep ((Below.refl w.heap.size w).alloc (Nat.le_refl _) o) hhi) (by simp; omega)
  · obtain ⟨h1, h2, _⟩ := pathQ_parts (callB_parts c h).2.1
    rw [spV, if_pos h]
    exact pathText_any c.path pa pc W lo hi (hc.1.keep hW hhi) (Nat.le_trans hhi hW.size) hp h2 h1
  · obtain ⟨h1, h2, _⟩ := pathQ_parts ((callB_parts c h).2.2.1 h5)
    rw [stV5, if_pos ⟨h, h5⟩]
    exact pathText_any c.to ta tc W lo hi (hc.2.1.keep hW hhi) (Nat.le_trans hhi hW.size) ht h2 h1
  · have hn := (callB_parts c h).2.2.2 hk
    rw [snV, if_pos ⟨h, hk⟩]
    have := Tryd.strconv_Itoa_small c.num.toNat (by omega) W
    rw [Int.toNat_of_nonneg hn.1] at this
    exact this.mono fun e w' ⟨h1, h2⟩ => ⟨h1, by rw [h2]; exact Below.refl _ _⟩
  · rw [sxV, if_pos ⟨h, h2, h24⟩]
    exact dataText_all c.data W h24

end Go.Proofs.YtigammadhpgahaaDoor
