/- spec.l1Cut: the segments of a text, in memory of their own. -/
import Derived.Maps.AppendAt
import Derived.WalkSpells
import Derived.Test.YtkidfflmbfnogaaDoorLow
import Derived.Test.YtkidfflmbfnogaaDoorOwnR
import Derived.Test.YtkidfflmbfnogaaDoorCut
namespace Go.Proofs.YtkidfflmbfnogaaDoor
open Go.RowKit

theorem row_grown {w w1 : World} {base : Nat} {e : TypeId} {sz : Nat} {v : Value} {n : Nat} {xs : List Value} {B : Nat} {w0 : World} (hB : Below B w0 w) (h : w.ownsRow base e sz v n xs) (hb : B ≤ base) (hz : B ≤ w.heap.size) (hg : w.grownBy w1 v.ownBlock) : Below B w0 w1 :=
  hB.grown hg hz (fun k hk => by
    rcases h.2 with ⟨rfl, _⟩ | ⟨g, cap, cur, rfl, hg1, _⟩
    · simp [Value.ownBlock] at hk
    · simp [Value.ownBlock] at hk; omega)

set_option maxHeartbeats 2000000 in
theorem l1Cut_any (s : ByteArray) (c : UInt8) (w : World) (hs : s.size ≤ 1048576) :
    Calls Tryd.prog 9 #[.string s, .int .u8 c.toNat] w fun e w' => ∃ a cap, e = .returned (.slice a (cutB c s).length cap) ∧ w'.ownsRow w.heap.size 9 1 (.slice a (cutB c s).length cap) (cutB c s).length ((cutB c s).map .string) ∧ Below w.heap.size w w' := by
  obtain ⟨iS, hiS', hzS, hsS, hbS⟩ := info_S
  have hiS := hide hiS'
  clear hiS'
  have HZ : Hid (CutAt c s 0 0 []) := cutAt_zero c s
  go_enter Tryd.func9, Tryd.ntmps9
  go_wp2
  go_loopw [5, 6, 7] (fun o f i wr => ∃ (k fr : Nat) (ys : List ByteArray), k ≤ s.size ∧ fr ≤ k ∧ ys.length ≤ k ∧ i = .int .i64 k ∧ f = .int .i64 fr ∧ Hid (CutAt c s k fr ys) ∧ Hid (wr.ownsRow w.heap.size 9 1 o ys.length (ys.map .string)) ∧ Hid (Below w.heap.size w wr)) (fun _ _ i _ => s.size - (intOf i).toNat)
  case atStart => exact ⟨0, 0, [], Nat.zero_le _, Nat.le_refl _, Nat.le_refl _, rfl, rfl, HZ, own_none (Blk.new _ _ _) (Nat.le_refl _), (Below.refl _ _).alloc (Nat.le_refl _) _⟩
  case round =>
    obtain ⟨k, fr, ys, hk, hf, hy, rfl, rfl, HC, HO, HB⟩ := hrel
    clear HZ
    have hsz : w.heap.size ≤ wr.heap.size := HB.out.size
    by_cases hlt : k < s.size
    · by_cases hx : s[k] = c
      · have HN : Hid (CutAt c s (k + 1) (k + 1) (ys ++ [s.extract fr k])) := cutAt_hit HC.out hlt hx
        have hx' : ((s[k].toNat : Int) == (c.toNat : Int)) = true := by rw [hx]; simp
        clear hx
        go_wp2_with (at_builtin; refine wpList_append_own _ rfl _ _ 28 rfl w.heap.size 9 iS (.string ⟨#[]⟩) 1 16 Tryd.underlying28 hiS.out hzS hsS hbS rfl (by decide) _ ys.length (ys.map .string) rfl (HO.out.alloc _) ⟨wr.heap.size, 0, none⟩ 1 1 [.string (s.extract fr k)] rfl (by simp) (cell_one_new _ _ _) (by simp [Value.oneCell']) (by unfold maxLen; omega) (by omega) (by simp; omega) ?_; intro v' w1 hown hgrow hnil; have HO1 := hide hown; have HG := hide hgrow; clear hown hgrow hnil)
        go_roundw
        case rel =>
          refine ⟨k + 1, k + 1, ys ++ [s.extract fr k], by omega, by omega, by simp; omega, by go_num, by go_num, HN, ?_, ?_⟩
          · have := HO1.out; show World.ownsRow _ _ _ _ _ _ _; simpa using this
          · exact row_grown (HB.out.alloc (by omega) _) (HO.out.alloc _) (Nat.le_refl _) (by simp; omega) HG.out
        case measure => simp [intOf]; omega
      · have HN : Hid (CutAt c s (k + 1) fr ys) := cutAt_miss HC.out hlt hx
        have hx' : ((s[k].toNat : Int) == (c.toNat : Int)) = false := by
          simp only [beq_eq_false_iff_ne, ne_eq, Int.natCast_inj]
          exact fun h => hx (UInt8.toNat_inj.1 h)
        clear hx
        go_wp2
        go_roundw
        case rel => exact ⟨k + 1, fr, ys, by omega, by omega, by omega, by go_num, rfl, HN, HO, HB⟩
        case measure => simp [intOf]; omega
    · have he : k = s.size := by omega
      subst he
      have HE : Hid (cutB c s = ys ++ [s.extract fr s.size]) := cutAt_all HC.out
      go_wp2_with (at_builtin; refine wpList_append_own _ rfl _ _ 28 rfl w.heap.size 9 iS (.string ⟨#[]⟩) 1 16 Tryd.underlying28 hiS.out hzS hsS hbS rfl (by decide) _ ys.length (ys.map .string) rfl (HO.out.alloc _) ⟨wr.heap.size, 0, none⟩ 1 1 [.string (s.extract fr s.size)] rfl (by simp) (cell_one_new _ _ _) (by simp [Value.oneCell']) (by unfold maxLen; omega) (by omega) (by simp; omega) ?_; intro v' w1 hown hgrow hnil; have HO1 := hide hown; have HG := hide hgrow; clear hown hgrow hnil)
      go_ret
      rw [HE.out]
      have h1 : w1.ownsRow w.heap.size 9 1 v' (ys ++ [s.extract fr s.size]).length ((ys ++ [s.extract fr s.size]).map .string) := by simpa using HO1.out
      obtain ⟨a, cap, rfl⟩ := ownsRow_form h1
      exact ⟨a, cap, rfl, h1, row_grown (HB.out.alloc (by omega) _) (HO.out.alloc _) (Nat.le_refl _) (by simp; omega) HG.out⟩

theorem cutB_sizes (c : UInt8) (s : ByteArray) : ∀ (i : Nat) (h : i < (cutB c s).length), (cutB c s)[i].size ≤ s.size := by
  intro i h
  have h3 : ∀ l : List UInt8, ∀ x ∈ segs c l, x.length ≤ l.length := by
    intro l
    induction l with
    | nil => simp [segs]
    | cons x r ih =>
      rw [segs]
      split
      · intro y hy
        rcases List.mem_cons.1 hy with h | h
        · subst h; simp
        · have := ih y h; simp; omega
      · split
        · intro y hy; simp at hy; subst hy; simp
        · rename_i h t e
          rw [e] at ih
          intro y hy
          rcases List.mem_cons.1 hy with h' | h'
          · subst h'; have := ih h List.mem_cons_self; simp; omega
          · have := ih y (List.mem_cons_of_mem _ h'); simp; omega
  unfold cutB at h ⊢
  rw [List.getElem_map]
  have := h3 _ _ (List.getElem_mem (by simpa using h))
  show ((segs c s.data.toList)[i]'(by simpa using h)).toArray.size ≤ s.size
  simpa using this

end Go.Proofs.YtkidfflmbfnogaaDoor
