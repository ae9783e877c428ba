/- markTreeS and markTree: a tree in memory of its own becomes its marked tree. -/
import Derived.Test.YtblcmnlbapbebaaDoorLow
import Derived.Test.YtblcmnlbapbebaaDoorProg
import Derived.Test.YtblcmnlbapbebaaDoorMarkS
namespace Go.Proofs.YtblcmnlbapbebaaDoor
open Go.RowKit

def setHead : (n : Nat) → T n → Bool → Int → ByteArray → T n
  | 0, t, _, _, _ => t
  | _ + 1, t, d, m, s => ⟨d, m, s, t.names, t.kids⟩

/-- Each of a list by its own number: the next one's is c more. -/
def markK {α : Type} (g : α → Nat → α) (c : α → Nat) : List α → Nat → List α
  | [], _ => []
  | t :: r, k => g t k :: markK g c r (k + c t)

/-- How many marks the names and kids of a part take. -/
def cntT : (n : Nat) → T n → Nat
  | 0, _ => 0
  | n + 1, t => t.names.length + (t.kids.map (fun u => 3 + cntT n u)).sum
def markT : (n : Nat) → T n → Nat → T n
  | 0, t, _ => t
  | n + 1, t, k => ⟨t.dir, t.mode, t.data, markL k t.names, markK (fun u k => setHead n (markT n u (k + 3)) (k % 3 == 0) ((k + 1 : Nat) : Int) (mtext (k + 2))) (fun u => 3 + cntT n u) t.kids (k + t.names.length)⟩
def cntH (n : Nat) (t : T n) : Nat := 3 + cntT n t
def markH (n : Nat) (t : T n) (k : Nat) : T n := setHead n (markT n t (k + 3)) (k % 3 == 0) ((k + 1 : Nat) : Int) (mtext (k + 2))
theorem markT_succ (n : Nat) (t : T (n + 1)) (k : Nat) : markT (n + 1) t k = (⟨t.dir, t.mode, t.data, markL k t.names, markK (markH n) (cntH n) t.kids (k + t.names.length)⟩ : Nd (T n)) := rfl
theorem cntT_succ (n : Nat) (t : T (n + 1)) : cntT (n + 1) t = t.names.length + (t.kids.map (cntH n)).sum := rfl

section
variable {α : Type} (g : α → Nat → α) (c : α → Nat)
theorem markK_length : ∀ (l : List α) (k : Nat), (markK g c l k).length = l.length
  | [], _ => rfl
  | _ :: r, k => by rw [markK, List.length_cons, List.length_cons, markK_length r]
theorem markK_get : ∀ (l : List α) (k i : Nat) (h : i < l.length) (h' : i < (markK g c l k).length), (markK g c l k)[i] = g l[i] (k + ((l.take i).map c).sum)
  | [], _, _, h, _ => by simp at h
  | t :: r, k, 0, _, _ => by simp [markK]
  | t :: r, k, i + 1, h, h' => by
    have h2 : i < r.length := by simpa using h
    have := markK_get r (k + c t) i h2 (by rw [markK_length]; exact h2)
    simp only [markK, List.getElem_cons_succ, List.take_succ_cons, List.map_cons, List.sum_cons]
    rw [this, Nat.add_assoc]

/-- The first j of them are marked. -/
def mixK (l : List α) (k j : Nat) : List α := (markK g c l k).take j ++ l.drop j
theorem mixK_zero (l : List α) (k : Nat) : mixK g c l k 0 = l := by simp [mixK]
theorem mixK_all (l : List α) (k : Nat) : mixK g c l k l.length = markK g c l k := by
  rw [mixK, List.drop_length, List.append_nil, List.take_of_length_le (by rw [markK_length]; exact Nat.le_refl _)]
theorem mixK_length (l : List α) (k j : Nat) : (mixK g c l k j).length = l.length := by
  rw [mixK, List.length_append, List.length_take, List.length_drop, markK_length]; omega
theorem mixK_at (l : List α) (k j : Nat) (h : j < l.length) (h' : j < (mixK g c l k j).length) : (mixK g c l k j)[j] = l[j] := by
  have hl : ((markK g c l k).take j).length = j := by rw [List.length_take, markK_length]; omega
  simp only [mixK]
  rw [List.getElem_append_right (by omega)]
  simp [hl]
theorem mixK_succ (l : List α) (k j : Nat) (h : j < l.length) : mixK g c l k (j + 1) = (mixK g c l k j).set j (g l[j] (k + ((l.take j).map c).sum)) := by
  apply List.ext_getElem
  · rw [List.length_set, mixK_length, mixK_length]
  · intro i h1 h2
    have hi : i < l.length := by rw [mixK_length] at h1; exact h1
    have hm : i < (markK g c l k).length := by rw [markK_length]; exact hi
    have hl : ((markK g c l k).take j).length = j := by rw [List.length_take, markK_length]; omega
    have hl1 : ((markK g c l k).take (j + 1)).length = j + 1 := by rw [List.length_take, markK_length]; omega
    rw [List.getElem_set]
    by_cases e : j = i
    · subst e
      rw [if_pos rfl]
      simp only [mixK]
      rw [List.getElem_append_left (by omega), List.getElem_take, markK_get g c l k j h hm]
    · rw [if_neg e]
      simp only [mixK]
      by_cases h3 : i < j
      · rw [List.getElem_append_left (by omega), List.getElem_append_left (by omega), List.getElem_take, List.getElem_take]
      · rw [List.getElem_append_right (by omega), List.getElem_append_right (by omega)]
        simp only [List.getElem_drop, hl, hl1]
        congr 1
        omega
end

/-- One kid turned to another: its three cells, and all within its own blocks. -/
theorem OwnKids.put {n : Nat} {w w' : World} {lo hi bk : Nat} {s e : Nat → Nat} {v : Value} {L : List (T n)} (h : OwnKids (Own w n) (headT n) w lo hi bk s e v L) {j : Nat} {t' : T n}
    (hoth : ∀ i, i < L.length → i ≠ j → SameIn (s i) (e i) w w') (hcel : ∀ x, x ≠ j * 5 → x ≠ j * 5 + 1 → x ≠ j * 5 + 2 → w'.cell? ⟨bk, x, none⟩ = w.cell? ⟨bk, x, none⟩) (hfro : ∀ x, w'.frozen? ⟨bk, x, none⟩ = w.frozen? ⟨bk, x, none⟩)
    (h0 : w'.cell? ⟨bk, j * 5, none⟩ = some (.bool (headT n t').1)) (h1 : w'.cell? ⟨bk, j * 5 + 1, none⟩ = some (.int .i64 (headT n t').2.1)) (h2 : w'.cell? ⟨bk, j * 5 + 2, none⟩ = some (.string (headT n t').2.2))
    {nv kv : Value} (h3 : w.cell? ⟨bk, j * 5 + 3, none⟩ = some nv) (h4 : w.cell? ⟨bk, j * 5 + 4, none⟩ = some kv) (hO : Own w' n (s j) (e j) t' nv kv) : OwnKids (Own w' n) (headT n) w' lo hi bk s e v (L.set j t') := by
  obtain ⟨⟨a, cap, hv, ha⟩, p2, p3, p4, p5⟩ := h
  have hlen : (L.set j t').length = L.length := List.length_set
  refine ⟨⟨a, cap, by rw [hlen]; exact hv, fun h => ha (by omega)⟩, by omega, fun h => p3 (by omega), fun i hi => ?_, fun i hi => ?_⟩
  · obtain ⟨q1, q2, q3, q4, q5⟩ := p4 i (by omega)
    exact ⟨q1, q2, q3, fun h => q4 (by omega), q5⟩
  · have hi' : i < L.length := by omega
    by_cases e1 : j = i
    · subst e1
      have eg : (L.set j t')[j] = t' := by simp
      rw [eg]
      obtain ⟨_, _, _, _, _, _, _, fz, _⟩ := p5 j hi'
      exact ⟨nv, kv, h0, h1, h2, by rw [hcel _ (by omega) (by omega) (by omega)]; exact h3, by rw [hcel _ (by omega) (by omega) (by omega)]; exact h4, fun x hx => by rw [hfro]; exact fz x hx, hO⟩
    · have eg : (L.set j t')[i] = L[i] := by rw [List.getElem_set, if_neg e1]
      rw [eg]
      obtain ⟨nv', kv', c0, c1, c2, c3, c4, fz, ho⟩ := p5 i hi'
      exact ⟨nv', kv', by rw [hcel _ (by omega) (by omega) (by omega)]; exact c0, by rw [hcel _ (by omega) (by omega) (by omega)]; exact c1, by rw [hcel _ (by omega) (by omega) (by omega)]; exact c2, by rw [hcel _ (by omega) (by omega) (by omega)]; exact c3, by rw [hcel _ (by omega) (by omega) (by omega)]; exact c4,
        fun x hx => by rw [hfro]; exact fz x hx, Own.same n _ _ _ _ _ (hoth i hi' (fun h => e1 h.symm)) ho⟩

theorem kids_order {s e : Nat → Nat} {m : Nat} (h : ∀ i, i < m → s i ≤ e i ∧ (i + 1 < m → e i ≤ s (i + 1))) : ∀ (d i : Nat), i + d + 1 < m → e i ≤ s (i + d + 1)
  | 0, i, hd => (h i (by omega)).2 hd
  | d + 1, i, hd => by
    have h1 := kids_order h d i (by omega)
    have h2 := h (i + d + 1) (by omega)
    have h3 := h2.2 hd
    have h4 : i + (d + 1) + 1 = i + d + 1 + 1 := by omega
    rw [h4]
    omega
theorem kids_apart {s e : Nat → Nat} {m : Nat} (h : ∀ i, i < m → s i ≤ e i ∧ (i + 1 < m → e i ≤ s (i + 1))) {i j : Nat} (hi : i < m) (hj : j < m) (hne : i ≠ j) : ∀ k, s i ≤ k → k < e i → ¬ (s j ≤ k ∧ k < e j) := by
  intro k h1 h2 ⟨h3, h4⟩
  rcases Nat.lt_or_gt_of_ne hne with hlt | hlt
  · have := kids_order h (j - i - 1) i (by omega)
    have e1 : i + (j - i - 1) + 1 = j := by omega
    rw [e1] at this
    omega
  · have := kids_order h (i - j - 1) j (by omega)
    have e1 : j + (i - j - 1) + 1 = i := by omega
    rw [e1] at this
    omega

theorem OwnKids.fine {n : Nat} {w w' : World} {lo hi bk : Nat} {s e : Nat → Nat} {v : Value} {L : List (T n)} (h : OwnKids (Own w n) (headT n) w lo hi bk s e v L) (hb : 0 < L.length → w'.heap[bk]? = w.heap[bk]?) (hk : ∀ i, i < L.length → SameIn (s i) (e i) w w') :
    OwnKids (Own w' n) (headT n) w' lo hi bk s e v L := by
  obtain ⟨p1, p2, p3, p4, p5⟩ := h
  refine ⟨p1, p2, p3, p4, fun i hi => ?_⟩
  obtain ⟨nv', kv', c0, c1, c2, c3, c4, fz, ho⟩ := p5 i hi
  have hb' := hb (by omega)
  have hc : ∀ x, w'.cell? ⟨bk, x, none⟩ = w.cell? ⟨bk, x, none⟩ := fun x => World.cell?_of_block (a := ⟨bk, x, none⟩) hb'
  exact ⟨nv', kv', by rw [hc]; exact c0, by rw [hc]; exact c1, by rw [hc]; exact c2, by rw [hc]; exact c3, by rw [hc]; exact c4, fun x hx => by rw [World.frozen?_of_block (a := ⟨bk, _, none⟩) hb']; exact fz x hx, Own.same n _ _ _ _ _ (hk i hi) ho⟩

/-- The three cells of the kid's own are marked. -/
structure Stage (bk o : Nat) (v0 v1 v2 : Value) (wr w4 : World) : Prop where
  inr : InR bk (bk + 1) wr w4
  c0 : w4.cell? ⟨bk, o, none⟩ = some v0
  c1 : w4.cell? ⟨bk, o + 1, none⟩ = some v1
  c2 : w4.cell? ⟨bk, o + 2, none⟩ = some v2
  cells : ∀ x, x ≠ o → x ≠ o + 1 → x ≠ o + 2 → w4.cell? ⟨bk, x, none⟩ = wr.cell? ⟨bk, x, none⟩
  frozen : ∀ x, w4.frozen? ⟨bk, x, none⟩ = wr.frozen? ⟨bk, x, none⟩

theorem stage_of {bk o : Nat} {v0 v1 v2 : Value} {wr w3 : World} (hlt : bk < wr.heap.size) {u0 u1 u2 : Value} (h0 : wr.cell? ⟨bk, o, none⟩ = some u0) (h1 : wr.cell? ⟨bk, o + 1, none⟩ = some u1) (h2 : wr.cell? ⟨bk, o + 2, none⟩ = some u2)
    (hB : Below ((wr.setCell ⟨bk, o, none⟩ v0).setCell ⟨bk, o + 1, none⟩ v1).heap.size ((wr.setCell ⟨bk, o, none⟩ v0).setCell ⟨bk, o + 1, none⟩ v1) w3) : Stage bk o v0 v1 v2 wr (w3.setCell ⟨bk, o + 2, none⟩ v2) := by
  have ne : ∀ x y : Nat, x ≠ y → (⟨bk, x, none⟩ : Addr) ≠ ⟨bk, y, none⟩ := fun x y h e => by injection e with _ e2 _; exact h e2
  have hsz : ((wr.setCell ⟨bk, o, none⟩ v0).setCell ⟨bk, o + 1, none⟩ v1).heap.size = wr.heap.size := by simp
  have hc : ∀ x, w3.cell? ⟨bk, x, none⟩ = ((wr.setCell ⟨bk, o, none⟩ v0).setCell ⟨bk, o + 1, none⟩ v1).cell? ⟨bk, x, none⟩ := fun x => hB.cell (p := ⟨bk, x, none⟩) (hsz.symm ▸ hlt)
  have g0 : w3.cell? ⟨bk, o, none⟩ = some v0 := by rw [hc, World.cell?_setCell_other _ _ _ _ (ne _ _ (by omega)), World.cell?_setCell_same' _ _ _ (by rw [h0]; rfl)]
  have g1 : w3.cell? ⟨bk, o + 1, none⟩ = some v1 := by rw [hc, World.cell?_setCell_same' _ _ _ (by rw [World.cell?_setCell_other _ _ _ _ (ne _ _ (by omega)), h1]; rfl)]
  have g : ∀ x, x ≠ o → x ≠ o + 1 → w3.cell? ⟨bk, x, none⟩ = wr.cell? ⟨bk, x, none⟩ := fun x a b => by rw [hc, World.cell?_setCell_other _ _ _ _ (ne _ _ (by omega)), World.cell?_setCell_other _ _ _ _ (ne _ _ (by omega))]
  have i1 : InR bk (bk + 1) wr (wr.setCell ⟨bk, o, none⟩ v0) := (InR.refl _ _ _).set (p := ⟨bk, o, none⟩) ⟨Nat.le_refl _, Nat.lt_succ_self _⟩ v0
  have i2 : InR bk (bk + 1) wr ((wr.setCell ⟨bk, o, none⟩ v0).setCell ⟨bk, o + 1, none⟩ v1) := i1.set (p := ⟨bk, o + 1, none⟩) ⟨Nat.le_refl _, Nat.lt_succ_self _⟩ v1
  have i3 : InR bk (bk + 1) wr w3 := i2.below hB
  have i4 : InR bk (bk + 1) wr (w3.setCell ⟨bk, o + 2, none⟩ v2) := i3.set (p := ⟨bk, o + 2, none⟩) ⟨Nat.le_refl _, Nat.lt_succ_self _⟩ v2
  refine ⟨i4, ?_, ?_, ?_, fun x a b c => ?_, fun x => ?_⟩
  · rw [World.cell?_setCell_other _ _ _ _ (ne _ _ (by omega))]; exact g0
  · rw [World.cell?_setCell_other _ _ _ _ (ne _ _ (by omega))]; exact g1
  · rw [World.cell?_setCell_same' _ _ _ (by rw [g _ (by omega) (by omega), h2]; rfl)]
  · rw [World.cell?_setCell_other _ _ _ _ (ne _ _ (by omega))]; exact g x a b
  · rw [World.frozen?_setCell]
    rw [hB.frozen (p := ⟨bk, x, none⟩) (hsz.symm ▸ hlt), World.frozen?_setCell, World.frozen?_setCell]

/-- What a round does to the kids. -/
def KeepK (bk m : Nat) (s e : Nat → Nat) (w w' : World) : Prop := ∀ x, x < w.heap.size → x ≠ bk → (∀ i, i < m → ¬ (s i ≤ x ∧ x < e i)) → w'.heap[x]? = w.heap[x]?

theorem wf_small {x : Nat} (h : x ≤ 1073741824) : (Lit.int .i64 (x : Int)).wf = true := by
  simp [Lit.wf, IntKind.min, IntKind.max, IntKind.signed, IntKind.bits]
  omega

theorem own_marked {n : Nat} {lo hi bn bk : Nat} {s e : Nat → Nat} {nv kv : Value} {t : T (n + 1)} {k : Nat} {w5 w6 : World} (hN : OwnStrs w5 lo hi bn nv (markL k t.names)) (hhi : hi ≤ w5.heap.size)
    (hK : OwnKids (Own w6 n) (headT n) w6 lo hi bk s e kv (markK (markH n) (cntH n) t.kids (k + t.names.length))) (hkeep : KeepK bk t.kids.length s e w5 w6) (hne : bn ≠ bk) (hsep : ∀ i, i < t.kids.length → ¬ (s i ≤ bn ∧ bn < e i)) {d : Bool} {m : Int} {da : ByteArray} (hda : da.size ≤ maxLen) (hm : (Lit.int .i64 m).wf = true) :
    Own w6 (n + 1) lo hi (setHead (n + 1) (markT (n + 1) t k) d m da) nv kv :=
  ⟨hda, hm, bn, bk, s, e, ownStrs_blk hN (fun h => hkeep bn (by have := hN.2.2.2.1 h; omega) hne hsep), hK, hne, fun i hi => hsep i (by
    have hi' : i < (markK (markH n) (cntH n) t.kids (k + t.names.length)).length := hi
    rw [markK_length] at hi'; exact hi')⟩

end Go.Proofs.YtblcmnlbapbebaaDoor
