/- Entries: both sides say the same of whether one is ok. -/
import Derived.Test.YtkidfflmbfnogaaDoorIsE
import Derived.Test.YtkidfflmbfnogaaDoorPathB
namespace Go.Proofs.YtkidfflmbfnogaaDoor
open Go.RowKit

theorem entQ_none (l wt : Int) (d : Bool) (m xs : Int) (q r z : Bool) (h1 : ¬ (wt = 1 ∧ d = false)) (h2 : ¬ (wt = 2 ∧ d = true)) (h3 : ¬ (wt = 2 ∧ d = false)) (h4 : ¬ (wt = 3 ∧ d = false)) (h5 : ¬ (wt = 4 ∧ d = false)) : entQ l wt d m xs q r z = false := by
  unfold entQ
  split
  · rfl
  · cases d <;> simp_all

theorem form_parts (wt : Int) (d : Bool) : ∃ s fc fd fm fx ok, formV wt d = formT s fc fd fm fx ok ∧ ∀ (l m xs : Int) (nb r z : Bool), 0 ≤ l → (l = 0 → nb = true) →
    isQ ok fm fx (l == 0) (wt != 3) (m != 0) xs (nb && decide (l ≤ 4)) r z = entQ l wt d m xs (nb && (decide (1 ≤ l) && decide (l ≤ 4))) r z := by
  unfold formV
  repeat' split
  all_goals
    rename_i h
    refine ⟨_, _, _, _, _, _, rfl, ?_⟩
    intro l m xs nb r z hl hn
  case isFalse.isFalse.isFalse.isFalse.isFalse =>
    rw [entQ_none _ _ _ _ _ _ _ _ (by assumption) (by assumption) (by assumption) (by assumption) (by assumption)]
    rfl
  all_goals
    obtain ⟨rfl, rfl⟩ := h
    by_cases h0 : l = 0
    · obtain rfl := hn h0
      clear hn
      subst h0
      by_cases hm : m = 0 <;> by_cases hx : xs ≤ 24 <;> cases r <;> cases z <;> simp_all [isQ, entQ] <;> omega
    · have h1 : 1 ≤ l := by omega
      clear hn
      by_cases h4 : l ≤ 4 <;> by_cases hm : m = 0 <;> by_cases hx : xs ≤ 24 <;> cases nb <;> cases r <;> cases z <;> simp_all [isQ, entQ] <;> omega

theorem FormsAt.keep {w w' : World} (h : FormsAt w) (hb : Below w.heap.size w w') : FormsAt w' := by
  obtain ⟨t, fr, h⟩ := h
  exact ⟨t, fr, by rw [hb.block 0 (heap_lt h)]; exact h⟩

theorem isEntry_any (e : Ent) (pa : Option Addr) (pc : Nat) (w : World) (lo hi : Nat) (he : EntOk w lo hi e pa pc) (hhi : hi ≤ w.heap.size) (hF : FormsAt w) :
    Calls Tryd.prog 27 #[aggE e pa pc] w fun r w' => r = .returned (.bool (entB e)) ∧ Below w.heap.size w w' := by
  obtain ⟨s, fc, fd, fm, fx, ok, hV, hv⟩ := form_parts e.what e.dir
  have hE := hv e.path.length e.mode e.data.size (allB e.path) (modeQ e.mode) e.data.toList.isEmpty (by omega) (fun h => by
    have : e.path = [] := List.length_eq_zero_iff.1 (by omega)
    rw [this]; rfl)
  have h := isEntry_at e.path e.what e.dir e.mode e.data s fc fd fm fx ok _ (modeQ e.mode) _ _ _ _ pa pc w
    (fun o => by
      have h := formOf_any pa e.path.length pc e.what e.dir e.mode e.data (w.alloc o) (hF.keep ((Below.refl _ _).alloc (Nat.le_refl _) o))
      rw [hV] at h
      exact h)
    (fun W hB => isPath_any e.path pa pc W lo hi (he.1.keep hB hhi))
    (fun W => isMode_any e.mode W) rfl rfl rfl rfl
  rw [hE] at h
  exact h

end Go.Proofs.YtkidfflmbfnogaaDoor
