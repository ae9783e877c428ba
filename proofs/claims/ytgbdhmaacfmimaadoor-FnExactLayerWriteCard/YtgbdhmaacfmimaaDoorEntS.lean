/- Entries: the program's line of an entry that is ok is the specification's, without its newline. -/
import Derived.Test.YtgbdhmaacfmimaaDoorLineX
namespace Go.Proofs.YtgbdhmaacfmimaaDoor
open Go.RowKit

set_option maxHeartbeats 1000000 in
theorem dataText_empty (d : ByteArray) (w : World) (h0 : d.toList.isEmpty = true) (hne : d.size = 0) :
    Calls Tryd.prog 33 #[.string d] w fun e w' => e = .returned (.string (tx (dataL d))) ∧ Below w.heap.size w w' := by
  have HD : Hid (dataL d = [45]) := by show _ = _; rw [dataL, if_pos hne]
  go_enter Tryd.func33, Tryd.ntmps33
  go_wp2_with fail
  go_ret
  exact ⟨by rw [HD.out]; rfl, Below.refl _ _⟩
theorem empty_iff (d : ByteArray) : d.toList.isEmpty = true ↔ d.size = 0 := by
  have h : d.toList.length = d.size := by
    rw [ByteArray.toList_eq]
    exact Array.length_toList
  rw [List.isEmpty_iff, ← h, List.length_eq_zero_iff]
theorem dataText_all (d : ByteArray) (w : World) (hd : d.size ≤ 24) :
    Calls Tryd.prog 33 #[.string d] w fun e w' => e = .returned (.string (tx (dataL d))) ∧ Below w.heap.size w w' := by
  by_cases h : d.size = 0
  · exact dataText_empty d w ((empty_iff d).2 h) h
  · exact dataText_any d w hd (by have := mt (empty_iff d).1 h; simpa using this) h

theorem entB_form (e : Ent) (h : entB e = true) : (e.what = 1 ∧ e.dir = false) ∨ (e.what = 2 ∧ e.dir = true) ∨ (e.what = 2 ∧ e.dir = false) ∨ (e.what = 3 ∧ e.dir = false) ∨ (e.what = 4 ∧ e.dir = false) := by
  refine Classical.byContradiction fun hn => ?_
  have := entQ_none e.path.length e.what e.dir e.mode e.data.size (pathQ e.path) (modeQ e.mode) e.data.toList.isEmpty (fun c => hn (Or.inl c)) (fun c => hn (Or.inr (Or.inl c))) (fun c => hn (Or.inr (Or.inr (Or.inl c)))) (fun c => hn (Or.inr (Or.inr (Or.inr (Or.inl c))))) (fun c => hn (Or.inr (Or.inr (Or.inr (Or.inr c)))))
  unfold entB at h
  rw [this] at h
  cases h

theorem word1 : (⟨#[103, 111, 110, 101]⟩ : ByteArray) ++ ⟨#[32]⟩ = ⟨#[103, 111, 110, 101, 32]⟩ := rfl
theorem word2 : (⟨#[110, 101, 119, 100, 105, 114]⟩ : ByteArray) ++ ⟨#[32]⟩ = ⟨#[110, 101, 119, 100, 105, 114, 32]⟩ := rfl
theorem word3 : (⟨#[110, 101, 119]⟩ : ByteArray) ++ ⟨#[32]⟩ = ⟨#[110, 101, 119, 32]⟩ := rfl
theorem word4 : (⟨#[109, 111, 100, 101]⟩ : ByteArray) ++ ⟨#[32]⟩ = ⟨#[109, 111, 100, 101, 32]⟩ := rfl
theorem word5 : (⟨#[100, 97, 116, 97]⟩ : ByteArray) ++ ⟨#[32]⟩ = ⟨#[100, 97, 116, 97, 32]⟩ := rfl

theorem entryLine_any (e : Ent) (pa : Option Addr) (pc : Nat) (lo hi : Nat) (hk : entB e = true)
    (hI : ∀ (m : Nat) W, m < 8 → Calls Tryd.prog 32 #[.int .i64 m] W fun e w' => e = .returned (.string (tx (decL m))) ∧ Below W.heap.size W w') :
    ∃ t, t ++ ⟨#[10]⟩ = lineE e ∧ ∀ w, EntOk w lo hi e pa pc → hi ≤ w.heap.size → FormsAt w →
      Calls Tryd.prog 15 #[aggE e pa pc] w fun r w' => r = .returned (.string t) ∧ Below w.heap.size w w' := by
  obtain ⟨h1, h2, h3, h4, h5⟩ := entB_parts e hk
  have hform := entB_form e hk
  have hp := pathL_len _ h1 h2
  have hx := dataL_len _ h5
  have hm : (tx (decL e.mode.toNat)).size ≤ 100 := by show 1 ≤ 100; decide
  have HF : ∀ w, FormsAt w → ∀ o, Calls Tryd.prog 27 #[.agg #[.slice pa e.path.length pc, .int .i64 e.what, .bool e.dir, .int .i64 e.mode, .string e.data]] (w.alloc o) fun r w' => r = .returned (formV e.what e.dir) ∧ Below (w.alloc o).heap.size (w.alloc o) w' :=
    fun w hF o => formOf_any pa e.path.length pc e.what e.dir e.mode e.data (w.alloc o) (hF.keep ((Below.refl _ _).alloc (Nat.le_refl _) o))
  have HP : ∀ w, EntOk w lo hi e pa pc → hi ≤ w.heap.size → ∀ W, Below w.heap.size w W → Calls Tryd.prog 31 #[.slice pa e.path.length pc] W fun r w' => r = .returned (.string (tx (pathL e.path))) ∧ Below W.heap.size W w' :=
    fun w he hhi W hB => pathText_any e.path pa pc W lo hi (he.1.keep hB hhi) (Nat.le_trans hhi hB.size) he.2.2.2.2.1 h2 h1
  have HD : ∀ W, Calls Tryd.prog 32 #[.int .i64 e.mode] W fun r w' => r = .returned (.string (tx (decL e.mode.toNat))) ∧ Below W.heap.size W w' := fun W => by
    have h := hI e.mode.toNat W (by omega)
    rw [Int.toNat_of_nonneg h3] at h
    exact h
  have HX : ∀ W, Calls Tryd.prog 33 #[.string e.data] W fun r w' => r = .returned (.string (tx (dataL e.data))) ∧ Below W.heap.size W w' := fun W => dataText_all e.data W h5
  obtain ⟨path, what, dir, mode, data⟩ := e
  unfold lineE
  rcases hform with ⟨hw, hd⟩ | ⟨hw, hd⟩ | ⟨hw, hd⟩ | ⟨hw, hd⟩ | ⟨hw, hd⟩
  · simp only at hw hd
    subst hw hd
    refine ⟨lineP ⟨#[103, 111, 110, 101]⟩ false false (tx (pathL path)) (tx (decL mode.toNat)) (tx (dataL data)), ?_, fun w he hhi hF => entryLine_ff path 1 false mode data _ 1 false true _ _ _ pa pc w (by decide) hp (HF w hF) (HP w he hhi)⟩
    simp only [lineP, lineQ, ← word1, ByteArray.append_assoc]
    rfl
  · simp only at hw hd
    subst hw hd
    refine ⟨lineP ⟨#[110, 101, 119, 100, 105, 114]⟩ true false (tx (pathL path)) (tx (decL mode.toNat)) (tx (dataL data)), ?_, fun w he hhi hF => entryLine_tf path 2 true mode data _ 2 true true _ _ _ pa pc w (by decide) hp (HF w hF) (HP w he hhi) hm HD⟩
    simp only [lineP, lineQ, ← word2, ByteArray.append_assoc]
    rfl
  · simp only at hw hd
    subst hw hd
    refine ⟨lineP ⟨#[110, 101, 119]⟩ true true (tx (pathL path)) (tx (decL mode.toNat)) (tx (dataL data)), ?_, fun w he hhi hF => entryLine_tt path 2 false mode data _ 2 false true _ _ _ pa pc w (by decide) hp (HF w hF) (HP w he hhi) hm HD hx HX⟩
    simp only [lineP, lineQ, ← word3, ByteArray.append_assoc]
    rfl
  · simp only at hw hd
    subst hw hd
    refine ⟨lineP ⟨#[109, 111, 100, 101]⟩ true false (tx (pathL path)) (tx (decL mode.toNat)) (tx (dataL data)), ?_, fun w he hhi hF => entryLine_tf path 3 false mode data _ 3 false true _ _ _ pa pc w (by decide) hp (HF w hF) (HP w he hhi) hm HD⟩
    simp only [lineP, lineQ, ← word4, ByteArray.append_assoc]
    rfl
  · simp only at hw hd
    subst hw hd
    refine ⟨lineP ⟨#[100, 97, 116, 97]⟩ false true (tx (pathL path)) (tx (decL mode.toNat)) (tx (dataL data)), ?_, fun w he hhi hF => entryLine_ft path 4 false mode data _ 4 false true _ _ _ pa pc w (by decide) hp (HF w hF) (HP w he hhi) hx HX⟩
    simp only [lineP, lineQ, ← word5, ByteArray.append_assoc]
    rfl

end Go.Proofs.YtgbdhmaacfmimaaDoor
