/- readPath: a path out of a text. -/
import Derived.Test.YtkidfflmbfnogaaDoorShelf
import Derived.Test.YtkidfflmbfnogaaDoorPthA
import Derived.Test.YtkidfflmbfnogaaDoorOwnR
import Derived.Test.YtkidfflmbfnogaaDoorPathB
namespace Go.Proofs.YtkidfflmbfnogaaDoor
open Go.RowKit

theorem idx_miss {c : UInt8} {l : List UInt8} (h : Lib.indexByte l c = -1) : c ∉ l := fun hm => by
  obtain ⟨k, hk⟩ := List.mem_iff_getElem?.1 hm
  exact Lib.indexByte_none h k hk
theorem idx_hit {c : UInt8} {l : List UInt8} {o : Nat} (h : Lib.indexByte l c = o) : o < l.length ∧ segs c l = l.take o :: segs c (l.drop (o + 1)) := by
  obtain ⟨h1, h2⟩ := Lib.indexByte_some h
  have ho : o < l.length := by
    apply Classical.byContradiction
    intro hn
    rw [List.getElem?_eq_none (by omega)] at h1
    cases h1
  refine ⟨ho, ?_⟩
  rw [List.getElem?_eq_getElem ho] at h1
  have e : l = l.take o ++ c :: l.drop (o + 1) := by
    have := List.take_append_drop o l
    rw [List.drop_eq_getElem_cons ho, Option.some.inj h1] at this
    exact this.symm
  have hf : c ∉ l.take o := fun hm => by
    obtain ⟨k, hk⟩ := List.mem_iff_getElem?.1 hm
    by_cases hlt : k < o
    · rw [List.getElem?_take_of_lt hlt] at hk
      exact h2 k hlt hk
    · rw [List.getElem?_eq_none (by rw [List.length_take]; omega)] at hk
      cases hk
  conv => lhs; rw [e]
  exact segs_head _ hf
theorem split_segs (c : UInt8) : ∀ (k : Nat) (x : ByteArray), (k + 1 < (segs c x.data.toList).length → (Lib.splitB ⟨#[c]⟩ 0 k x).length = k + 1) ∧ ((segs c x.data.toList).length ≤ k + 1 → Lib.splitB ⟨#[c]⟩ 0 k x = cutB c x)
  | 0, x => by
    rw [Lib.splitB_zero]
    refine ⟨fun _ => rfl, fun h => ?_⟩
    have hn := segs_ne c x.data.toList
    have h1 := glue_segs c x.data.toList
    match hs : segs c x.data.toList with
    | [] => exact absurd hs hn
    | [a] =>
      rw [hs] at h1
      unfold cutB
      rw [hs, List.map_singleton]
      have : a = x.data.toList := h1
      rw [this, ofL_toL]
    | a :: b :: r => rw [hs] at h; simp at h
  | k + 1, x => by
    have hix : Lib.indexB x ⟨#[c]⟩ = Lib.indexByte x.data.toList c := Lib.index_one _ _
    by_cases hm : Lib.indexByte x.data.toList c = -1
    · rw [Lib.splitB_miss _ _ _ _ (hix.trans hm)]
      have hs := segs_one (idx_miss hm)
      refine ⟨fun h => ?_, fun _ => ?_⟩
      · rw [hs] at h; simp at h
      · unfold cutB
        rw [hs, List.map_singleton, ofL_toL]
    · have hge := Lib.indexByte_ge x.data.toList c
      obtain ⟨o, ho⟩ : ∃ o : Nat, Lib.indexByte x.data.toList c = o := ⟨(Lib.indexByte x.data.toList c).toNat, by omega⟩
      obtain ⟨hlt, hsg⟩ := idx_hit ho
      have hE : Lib.splitB ⟨#[c]⟩ 0 (k + 1) x = x.extract 0 o :: Lib.splitB ⟨#[c]⟩ 0 k (x.extract (o + 1) x.size) := by
        exact Lib.splitB_hit ⟨#[c]⟩ 0 k x o (hix.trans ho)
      obtain ⟨i1, i2⟩ := split_segs c k (x.extract (o + 1) x.size)
      have e2 : (x.extract (o + 1) x.size).data.toList = x.data.toList.drop (o + 1) := by
        rw [extract_list, List.take_of_length_le (by simp)]
      rw [e2] at i1 i2
      rw [hE, hsg]
      refine ⟨fun h => ?_, fun h => ?_⟩
      · rw [List.length_cons, i1 (by simpa using h)]
      · rw [i2 (by simpa using h)]
        unfold cutB
        rw [hsg, e2, List.map_cons]
        congr 1
        rw [← ofL_extract, List.drop_zero]
theorem cutB_len (c : UInt8) (x : ByteArray) : (cutB c x).length ≤ x.size + 1 := by
  unfold cutB
  rw [List.length_map]
  have h3 : ∀ l : List UInt8, (segs c l).length ≤ l.length + 1 := by
    intro l
    induction l with
    | nil => simp [segs]
    | cons x r ih =>
      rw [segs]
      split
      · simp; omega
      · split
        · simp
        · rename_i h t e
          rw [e] at ih; simp at ih ⊢; omega
  have := h3 x.data.toList
  simpa using this

theorem split_sizes (sep : ByteArray) (B : Nat) : ∀ (k : Nat) (x : ByteArray), x.size ≤ B → ∀ y ∈ Lib.splitB sep 0 k x, y.size ≤ B
  | 0, x, h => by rw [Lib.splitB_zero]; intro y hy; simp at hy; subst hy; exact h
  | k + 1, x, h => by
    by_cases hm : Lib.indexB x sep = -1
    · rw [Lib.splitB_miss _ _ _ _ hm]; intro y hy; simp at hy; subst hy; exact h
    · unfold Lib.splitB
      rw [if_neg (by simpa using hm)]
      intro y hy
      rcases List.mem_cons.1 hy with e | e
      · subst e; rw [ByteArray.size_extract]; omega
      · exact split_sizes sep B k _ (by rw [ByteArray.size_extract]; omega) y e

theorem index47 (y : ByteArray) (W : World) : Calls Tryd.prog 55 #[.string y, .string ⟨#[47]⟩] W fun e w' => e = .returned (.int .i64 (Lib.indexB y ⟨#[47]⟩)) ∧ w' = W := by
  have := Tryd.strings_Index_one y 47 W
  rw [← Lib.index_one] at this
  exact this
theorem count47 (y : ByteArray) (W : World) : Calls Tryd.prog 54 #[.string y, .string ⟨#[47]⟩] W fun e w' => e = .returned (.int .i64 (Lib.countB y ⟨#[47]⟩)) ∧ w' = W := by
  refine (Tryd.strings_Count_one y 47 W).mono fun e w' ⟨he, hw⟩ => ⟨?_, hw⟩
  rw [he]
  show _ = Ending.returned (Value.int .i64 ((Lib.count y.data.toList [47] : Nat) : Int))
  rw [Lib.count_one]
  rfl

/-- What SplitN of five gives of a text. -/
structure Five (x : ByteArray) (l : List ByteArray) : Prop where
  sizes : ∀ (i : Nat) (h : i < l.length), l[i].size ≤ 1048576
  few : (cutB 47 x).length ≤ 4 → l = cutB 47 x
  many : 4 < (cutB 47 x).length → l.length = 5

theorem row_cells (w : World) (l : List ByteArray) (N : Nat) (h : l.length ≤ N) (hN : N ≤ maxLen) : (w.alloc (.cells (Lib.cellsOf l N) 9)).ownsRow w.heap.size 9 1 (.slice (some ⟨w.heap.size, 0, none⟩) l.length N) l.length (l.map .string) := by
  refine ⟨by simp, .inr ⟨w.heap.size, N, _, rfl, Nat.le_refl _, Blk.new _ _ _, h, hN, ?_, ?_⟩⟩
  · rw [Lib.cellsOf_size h, Nat.mul_one]
  · unfold Lib.cellsOf
    rw [List.toList_toArray, List.take_left' (by simp)]

set_option maxHeartbeats 1000000 in
theorem splitN_five (x : ByteArray) (w : World) (hs : x.size ≤ 1048576) :
    Calls Tryd.prog 36 #[.string x, .string ⟨#[47]⟩, .int .i64 5] w fun e w' => ∃ (l : List ByteArray) (cap : Nat), e = .returned (.slice (some ⟨w.heap.size, 0, none⟩) l.length cap) ∧ Below w.heap.size w w' ∧ w'.ownsRow w.heap.size 9 1 (.slice (some ⟨w.heap.size, 0, none⟩) l.length cap) l.length (l.map .string) ∧ Five x l := by
  have hg := (Any.strings_genSplit_core Tryd.lays221 (by kernel_rfl) x ⟨#[47]⟩ 0 5 (min 5 (x.size + 1)) w (by omega) (by decide) (by decide)
    (fun y c _ => index47 y _) (count47 x w) (by decide) (by decide) (by rw [if_neg (by decide)]; omega)).mono (R' := fun e w' => ∃ (l : List ByteArray) (cap : Nat), e = .returned (.slice (some ⟨w.heap.size, 0, none⟩) l.length cap) ∧ Below w.heap.size w w' ∧ w'.ownsRow w.heap.size 9 1 (.slice (some ⟨w.heap.size, 0, none⟩) l.length cap) l.length (l.map .string) ∧ Five x l) (by
      rintro e w' ⟨rfl, rfl⟩
      obtain ⟨i1, i2⟩ := split_segs 47 (min 5 (x.size + 1) - 1) x
      have hl := Lib.splitB_length_le ⟨#[47]⟩ 0 (min 5 (x.size + 1) - 1) x
      have hc := cutB_len 47 x
      have hcl : (cutB 47 x).length = (segs 47 x.data.toList).length := by unfold cutB; rw [List.length_map]
      refine ⟨_, _, rfl, (Below.refl _ _).alloc (Nat.le_refl _) _, row_cells w _ _ (by omega) (by unfold maxLen; omega), ⟨?_, ?_, ?_⟩⟩
      · intro i h
        exact split_sizes _ _ _ x hs _ (List.getElem_mem h)
      · intro h
        exact i2 (by omega)
      · intro h
        by_cases e : (segs 47 x.data.toList).length ≤ min 5 (x.size + 1) - 1 + 1
        · rw [i2 e]; omega
        · rw [i1 (by omega)]; omega)
  have HG := hide hg
  clear hg
  go_enter Tryd.func36, Tryd.ntmps36
  go_wp2_with (go_at_call 46; refine HG.out.mono ?_; rintro e w' ⟨l, cap, rfl, hrest⟩; have HR := hide hrest; clear hrest)
  go_ret
  exact ⟨l, cap, rfl, HR.out⟩

theorem cut_root (b : ByteArray) (h : b.data.toList.head? = some 47) : Lib.hasPrefix b.data.toList [47] = true ∧ (⟨(Lib.trimPrefix b.data.toList [47]).toArray⟩ : ByteArray) = b.extract 1 b.size := by
  have h1 : Lib.hasPrefix b.data.toList [47] = true := by
    cases hl : b.data.toList with
    | nil => rw [hl] at h; simp at h
    | cons x r => rw [hl] at h; simp at h; rw [h]; simp [Lib.hasPrefix, List.isPrefixOf]
  refine ⟨h1, ?_⟩
  unfold Lib.trimPrefix
  rw [if_pos h1, ← ofL_extract, List.take_of_length_le (by simp)]
  rfl
theorem cut_noroot (b : ByteArray) (h : b.data.toList.head? ≠ some 47) : Lib.hasPrefix b.data.toList [47] = false ∧ (⟨(Lib.trimPrefix b.data.toList [47]).toArray⟩ : ByteArray) = b := by
  have h1 : Lib.hasPrefix b.data.toList [47] = false := by
    cases hl : b.data.toList with
    | nil => rfl
    | cons x r => rw [hl] at h; simp at h; simp [Lib.hasPrefix, List.isPrefixOf]; exact fun e => h e.symm
  refine ⟨h1, ?_⟩
  unfold Lib.trimPrefix
  rw [if_neg (by rw [h1]; decide)]
theorem five_path {x : ByteArray} {l : List ByteArray} (h : Five x l) : (pathV l = true ↔ pathV (cutB 47 x) = true) ∧ (pathV l = true → l = cutB 47 x) := by
  by_cases hc : (cutB 47 x).length ≤ 4
  · rw [h.few hc]; exact ⟨Iff.rfl, fun _ => rfl⟩
  · have h1 := h.many (by omega)
    have h2 : pathV l = false := by unfold pathV; rw [h1]; simp
    have h3 : pathV (cutB 47 x) = false := by
      unfold pathV
      rw [Bool.and_eq_false_iff]
      exact .inr (by simp; omega)
    rw [h2, h3]
    exact ⟨Iff.rfl, fun e => by cases e⟩

theorem isPath_row {w : World} {base a : Nat} {l : List ByteArray} {cap : Nat} {x : ByteArray} (h : w.ownsRow base 9 1 (.slice (some ⟨a, 0, none⟩) l.length cap) l.length (l.map .string)) (hf : Five x l) :
    Calls Tryd.prog 37 #[.slice (some ⟨a, 0, none⟩) l.length cap] w fun e w' => e = .returned (.bool (pathV l)) ∧ w' = w := by
  have hl : l.length ≤ maxLen := by
    rcases h.2 with ⟨h1, h2⟩ | ⟨g, cap', cur, h1, h2, h3, h4, h5, _⟩
    · omega
    · omega
  exact isPath_any l _ _ w _ _ (strs_row h hl (fun i hi => by have := hf.sizes i hi; unfold maxLen; omega))

/-- What readPath gives. -/
def ReadP (b : ByteArray) (w : World) (e : Ending) (w' : World) : Prop := match pathR b with
  | some p => ∃ (a : Option Addr) (cap : Nat), e = .returned (.tuple #[.slice a p.length cap, .bool true]) ∧ w'.ownsRow w.heap.size 9 1 (.slice a p.length cap) p.length (p.map .string)
  | none => e = .returned (.tuple #[.slice none 0 0, .bool false])

set_option maxHeartbeats 1000000 in
theorem readPath_any (b : ByteArray) (w : World) (hs : b.size ≤ 1048576) :
    Calls Tryd.prog 24 #[.string b] w fun e w' => Below w.heap.size w w' ∧ ReadP b w e w' := by
  by_cases hr : b = wRoot
  · subst hr
    have HP : Hid (pathR wRoot = some []) := by show _ = _; rfl
    go_enter Tryd.func24, Tryd.ntmps24
    go_wp2
    go_ret2
    refine ⟨Below.refl _ _, ?_⟩
    unfold ReadP
    rw [HP.out]
    exact ⟨none, 0, rfl, World.ownsRow_nil _ _ _ _⟩
  · have hr' : (b.toList == [47]) = false := by
      rw [beq_eq_false_iff_ne]
      intro e
      exact hr (toList_inj (e.trans (by rw [Lib.toList_data])))
    by_cases hh : b.data.toList.head? = some 47
    · obtain ⟨c1, c2⟩ := cut_root b hh
      have HCP : Hid (Calls Tryd.prog 35 #[.string b, .string ⟨#[47]⟩] w fun e w' => e = .returned (.tuple #[.string (b.extract 1 b.size), .bool true]) ∧ w' = w) := by
        have := Tryd.strings_CutPrefix b ⟨#[47]⟩ w
        rw [show (⟨#[47]⟩ : ByteArray).data.toList = [47] from rfl, c1, c2] at this
        exact this
      have HP : Hid (pathR b = if pathV (cutB 47 (b.extract 1 b.size)) = true then some (cutB 47 (b.extract 1 b.size)) else none) := by
        show _ = _
        unfold pathR pathS
        rw [if_pos hh, if_neg hr]
      have HSP := hide (splitN_five (b.extract 1 b.size) w (extract_le b _ _ _ hs))
      clear c1 c2 hh hr
      generalize b.extract 1 b.size = x at *
      go_enter Tryd.func24, Tryd.ntmps24
      go_wp2_with (first
        | (go_at_call 35; refine HCP.out.mono ?_; rintro e w1 ⟨rfl, rfl⟩)
        | (go_at_call 36; refine HSP.out.mono ?_; rintro e w1 ⟨l, cap, rfl, hb, hown, hf⟩; have HB := hide hb; have HO := hide hown; have HF := hide hf; clear hb hown hf)
        | (go_at_call 37; refine (isPath_row HO.out HF.out).mono ?_; rintro e w2 ⟨rfl, rfl⟩; cases hq : pathV l <;> (have HQ := hide hq; clear hq)))
      · go_ret2
        refine ⟨HB.out, ?_⟩
        obtain ⟨f1, f2⟩ := five_path HF.out
        unfold ReadP
        rw [HP.out, if_neg (fun h => by have := f1.2 h; rw [HQ.out] at this; cases this)]
        rfl
      · go_ret2
        refine ⟨HB.out, ?_⟩
        obtain ⟨f1, f2⟩ := five_path HF.out
        unfold ReadP
        rw [HP.out, if_pos (f1.1 HQ.out), ← f2 HQ.out]
        exact ⟨_, _, rfl, HO.out⟩
    · obtain ⟨c1, c2⟩ := cut_noroot b hh
      have HCP : Hid (Calls Tryd.prog 35 #[.string b, .string ⟨#[47]⟩] w fun e w' => e = .returned (.tuple #[.string b, .bool false]) ∧ w' = w) := by
        have := Tryd.strings_CutPrefix b ⟨#[47]⟩ w
        rw [show (⟨#[47]⟩ : ByteArray).data.toList = [47] from rfl, c1, c2] at this
        exact this
      have HP : Hid (pathR b = none) := by
        show _ = _
        unfold pathR pathS
        rw [if_neg hh]
      have HSP := hide (splitN_five b w hs)
      clear c1 c2 hh hr
      go_enter Tryd.func24, Tryd.ntmps24
      go_wp2_with (first
        | (go_at_call 35; refine HCP.out.mono ?_; rintro e w1 ⟨rfl, rfl⟩)
        | (go_at_call 36; refine HSP.out.mono ?_; rintro e w1 ⟨l, cap, rfl, hb, hown, hf⟩; have HB := hide hb; clear hb hown hf))
      go_ret2
      refine ⟨HB.out, ?_⟩
      unfold ReadP
      rw [HP.out]
      rfl

end Go.Proofs.YtkidfflmbfnogaaDoor
