/- Entries: the specification's line of an entry that is ok. -/
import Derived.Test.YtkidfflmbfnogaaDoorEntN
namespace Go.Proofs.YtkidfflmbfnogaaDoor
open Go.RowKit

theorem hexL_len : ∀ (l : List UInt8), (hexL l).length = 2 * l.length
  | [] => rfl
  | x :: r => by
    have h2 := hexL_len r
    have e : (hexL (x :: r)).length = 2 + (hexL r).length := by simp [hexL]; omega
    rw [e, h2, List.length_cons]; omega
theorem dataL_len (b : ByteArray) (h : b.size ≤ 24) : (tx (dataL b)).size ≤ 100 := by
  have : (dataL b).length ≤ 48 := by
    unfold dataL
    split
    · simp
    · rw [hexL_len]
      have e2 : b.data.toList.length = b.size := by simp
      omega
  show (dataL b).toArray.size ≤ 100
  simp; omega

/-- What an entry that is ok has. -/
theorem entB_parts (e : Ent) (h : entB e = true) : (∀ x ∈ e.path, x.size ≤ 5) ∧ e.path.length ≤ 4 ∧ 0 ≤ e.mode ∧ e.mode ≤ 7 ∧ e.data.size ≤ 24 := by
  unfold entB entQ at h
  split at h
  · cases h
  · rename_i hn
    have hn1 : ¬ (0 < (e.path.length : Int) ∧ pathQ e.path = false) := fun c => hn (Or.inl c)
    have hn2 : ¬ (modeQ e.mode = false) := fun c => hn (Or.inr (Or.inl c))
    have hn3 : ¬ (24 < (e.data.size : Int)) := fun c => hn (Or.inr (Or.inr c))
    have hm : modeQ e.mode = true := by simpa using hn2
    simp only [modeQ, Bool.and_eq_true, decide_eq_true_eq] at hm
    refine ⟨?_, ?_, hm.1, hm.2, by omega⟩
    · intro x hx
      have h0 : 0 < (e.path.length : Int) := by have := List.length_pos_of_mem hx; omega
      have hq : pathQ e.path = true := by
        cases hq : pathQ e.path with
        | true => rfl
        | false => exact absurd ⟨h0, hq⟩ hn1
      simp only [pathQ, Bool.and_eq_true, decide_eq_true_eq] at hq
      have hnb := List.all_eq_true.1 hq.1 x hx
      simp only [nameB, Bool.and_eq_true, decide_eq_true_eq] at hnb
      omega
    · by_cases h0 : 0 < (e.path.length : Int)
      · have hq : pathQ e.path = true := by
          cases hq : pathQ e.path with
          | true => rfl
          | false => exact absurd ⟨h0, hq⟩ hn1
        simp only [pathQ, Bool.and_eq_true, decide_eq_true_eq] at hq
        omega
      · omega

def lineE (e : Ent) : ByteArray := lineQ e.what e.dir (tx (pathL e.path)) (tx (decL e.mode.toNat)) (tx (dataL e.data))

theorem l3Text_any (e : Ent) (pa : Option Addr) (pc : Nat) (w : World) (lo hi : Nat) (he : EntOk w lo hi e pa pc) (hhi : hi ≤ w.heap.size) (hk : entB e = true) :
    Calls Tryd.prog 20 #[aggE e pa pc] w fun r w' => r = .returned (.string (lineE e)) ∧ Below w.heap.size w w' := by
  obtain ⟨h1, h2, h3, h4, h5⟩ := entB_parts e hk
  have hN : ∀ o, Calls Tryd.prog 32 #[.slice pa e.path.length pc] (w.alloc o) fun r w' => r = .returned (.string (tx (pathL e.path))) ∧ w' = w.alloc o := fun o =>
    l3Name_any e.path pa pc (w.alloc o) lo hi (he.1.keep ((Below.refl w.heap.size w).alloc (Nat.le_refl _) o) hhi) h2 (fun i h => h1 _ (List.getElem_mem h))
  have hD : ∀ W, Calls Tryd.prog 33 #[.int .i64 e.mode] W fun r w' => r = .returned (.string (tx (decL e.mode.toNat))) ∧ Below W.heap.size W w' := fun W => by
    have h := l1Dec_small e.mode.toNat W (by omega)
    rw [Int.toNat_of_nonneg h3] at h
    exact h
  have hX : ∀ W, Calls Tryd.prog 34 #[.string e.data] W fun r w' => r = .returned (.string (tx (dataL e.data))) ∧ Below W.heap.size W w' := fun W => l1Hex_any e.data W h5
  by_cases hn : e.what = 2 → e.dir = true
  · exact l3Text_most e.path e.what e.dir e.mode e.data _ _ _ pa pc w hn (pathL_len _ h1 h2) (by show 1 ≤ 100; decide) (dataL_len _ h5) hN hD hX
  · have ⟨hw, hd⟩ : e.what = 2 ∧ e.dir = false := by
      constructor
      · exact Classical.byContradiction fun c => hn fun c2 => absurd c2 c
      · cases hd : e.dir with
        | false => rfl
        | true => exact absurd (fun _ => hd) hn
    have h := l3Text_new e.path e.mode e.data _ _ _ pa pc w (pathL_len _ h1 h2) (by show 1 ≤ 100; decide) (dataL_len _ h5) hN hD hX
    unfold lineE aggE
    rw [hw, hd]
    exact h

end Go.Proofs.YtkidfflmbfnogaaDoor
