/- What letting a name go leaves: plain functions of values. -/
import Derived.Test.YtnahpghbodmdbaaDoorGtV
import Derived.Test.YtnahpghbodmdbaaDoorRc3
namespace Go.Proofs.YtnahpghbodmdbaaDoor
open Go.RowKit

def noPg : Pg := ⟨false, ⟨#[]⟩, -1⟩
/-- The pages of a chain let go. -/
def dropP (P : List Pg) (c : List Nat) : List Pg := c.foldl (fun Q a => Q.set a noPg) P
theorem dropP_nil (P : List Pg) : dropP P [] = P := rfl
theorem dropP_snoc (P : List Pg) (c : List Nat) (a : Nat) : dropP P (c ++ [a]) = (dropP P c).set a noPg := by unfold dropP; rw [List.foldl_append]; rfl
theorem dropP_length (P : List Pg) : ∀ (c : List Nat), (dropP P c).length = P.length := by
  have key : ∀ (c : List Nat) (Q : List Pg), (c.foldl (fun Q a => Q.set a noPg) Q).length = Q.length := by
    intro c
    induction c with
    | nil => intro Q; rfl
    | cons x r ih => intro Q; rw [List.foldl_cons, ih, List.length_set]
  exact fun c => key c P
theorem dropP_other (P : List Pg) (a : Nat) : ∀ (c : List Nat), a ∉ c → (dropP P c)[a]? = P[a]? := by
  have key : ∀ (c : List Nat) (Q : List Pg), a ∉ c → (c.foldl (fun Q a => Q.set a noPg) Q)[a]? = Q[a]? := by
    intro c
    induction c with
    | nil => intro Q _; rfl
    | cons x r ih =>
      intro Q h
      rw [List.foldl_cons, ih _ (fun hm => h (List.mem_cons_of_mem _ hm)), List.getElem?_set]
      rw [if_neg (fun e => h (by rw [e]; simp))]
  exact fun c h => key c P h

theorem seeB_nodup : ∀ (c : List Nat) (S S' : List Bool), seeB S c = some S' → (∀ a ∈ c, a < S.length) → c.Nodup ∧ ∀ a ∈ c, S.getD a false = false
  | [], _, _, _, _ => ⟨List.nodup_nil, fun a ha => by cases ha⟩
  | x :: r, S, S', h, hl => by
    rw [seeB] at h
    split at h
    · cases h
    · rename_i hx
      obtain ⟨h1, h2⟩ := seeB_nodup r _ _ h (fun a ha => by rw [List.length_set]; exact hl a (List.mem_cons_of_mem _ ha))
      have hxl := hl x (by simp)
      have hxf : S.getD x false = false := by revert hx; cases S.getD x false <;> simp
      have ne : ∀ a ∈ r, a ≠ x := fun a ha e => by
        have := h2 a ha
        rw [set_getD _ _ _ hxl, if_pos e] at this
        cases this
      refine ⟨List.nodup_cons.2 ⟨fun hm => ne x hm rfl, h1⟩, fun a ha => ?_⟩
      rcases List.mem_cons.1 ha with rfl | ha
      · exact hxf
      · have := h2 a ha
        rw [set_getD _ _ _ hxl, if_neg (ne a ha)] at this
        exact this
theorem takeAll_memL (P : List Pg) : ∀ (N : List Pn) (T T' : List Bool), T.length = P.length → takeAll P N T = some T' → ∀ (i : Nat) (h : i < N.length), ∃ S S', S.length = P.length ∧ takeV P N[i].first N[i].size.toNat S = some S'
  | [], _, _, _, _, i, h => by simp at h
  | n :: r, T, T', hT, ht, i, h => by
    rw [takeAll] at ht
    obtain ⟨T1, h1, h2⟩ := Option.bind_eq_some_iff.1 ht
    match i with
    | 0 => exact ⟨T, T1, hT, h1⟩
    | i + 1 => exact takeAll_memL P r T1 T' (takeV_out P _ _ _ _ _ (Nat.le_refl _) hT h1).1 h2 i (by simpa using h)
theorem okV_nodup {P : List Pg} {N : List Pn} {T : List Bool} (h : okV P N = some T) (i : Nat) (hi : i < N.length) {c : List Nat} {e : Int} (hc : chainV P N[i].first N[i].size.toNat = some (c, e)) : c.Nodup ∧ ∀ a ∈ c, a < P.length := by
  unfold okV at h
  split at h
  · rename_i hh
    cases ht : takeAll P N (List.replicate 96 false) with
    | none => rw [ht] at h; cases h
    | some T' =>
      obtain ⟨S, S', hl, hs⟩ := takeAll_memL P N _ _ (by rw [List.length_replicate]; exact hh.1.symm) ht i hi
      have hm := (chainV_end P _ _ _ _ _ (Nat.le_refl _) hc).2.2
      rw [takeV_chain P _ _ _ _ (Nat.le_refl _), hc] at hs
      simp only [Option.bind_some] at hs
      split at hs
      · exact ⟨(seeB_nodup c S S' hs (fun a ha => by rw [hl]; exact hm a ha)).1, hm⟩
      · cases hs
  · cases h

theorem flat3_set {α : Type} (f : α → V3) (x : α) : ∀ (l : List α) (k : Nat), k < l.length → (((flat3 f l).set (k * 3) (f x).1).set (k * 3 + 1) (f x).2.1).set (k * 3 + 2) (f x).2.2 = flat3 f (l.set k x)
  | [], k, h => by simp at h
  | r :: l, 0, h => by simp [flat3]
  | r :: l, k + 1, h => by
    have e : flat3 f (r :: l) = [(f r).1, (f r).2.1, (f r).2.2] ++ flat3 f l := by simp [flat3]
    have e2 : flat3 f (r :: l.set k x) = [(f r).1, (f r).2.1, (f r).2.2] ++ flat3 f (l.set k x) := by simp [flat3]
    rw [List.set_cons_succ, e, e2, ← flat3_set f x l k (by simpa using h)]
    have q0 : (k + 1) * 3 = k * 3 + 3 := by omega
    have q1 : k * 3 + 3 + 1 = k * 3 + 1 + 3 := by omega
    have q2 : k * 3 + 3 + 2 = k * 3 + 2 + 3 := by omega
    rw [q0, q1, q2]
    simp

/-- Three cells of a row of one's own written. -/
theorem set3_row {α : Type} {f : α → V3} {W : World} {lo : Nat} {t : TypeId} {g n cap : Nat} {l : List α} (h : W.ownsRow lo t 3 (.slice (some ⟨g, 0, none⟩) n cap) n (flat3 f l)) (hn : l.length = n) (k : Nat) (x : α) (hk : k < n) :
    (((W.setCell ⟨g, k * 3, none⟩ (f x).1).setCell ⟨g, k * 3 + 1, none⟩ (f x).2.1).setCell ⟨g, k * 3 + 2, none⟩ (f x).2.2).ownsRow lo t 3 (.slice (some ⟨g, 0, none⟩) n cap) n (flat3 f (l.set k x)) := by
  rcases h.2 with ⟨_, h0⟩ | ⟨g', cap', cur, he, hg1, hg2, hcap, hmax, hcs, htake⟩
  · omega
  · simp only [Value.slice.injEq, true_and, Option.some.injEq, Addr.mk.injEq] at he
    obtain ⟨⟨rfl, _⟩, rfl⟩ := he
    refine ⟨by rw [flat3_length, List.length_set, hn], .inr ⟨g, cap, ((cur.setIfInBounds (k * 3) (f x).1).setIfInBounds (k * 3 + 1) (f x).2.1).setIfInBounds (k * 3 + 2) (f x).2.2, rfl, hg1, ?_, hcap, hmax, by simp [hcs], ?_⟩⟩
    · exact heap_setCell_same _ g _ _ _ _ (heap_setCell_same _ g _ _ _ _ (heap_setCell_same _ g _ _ _ _ hg2))
    · rw [Array.toList_setIfInBounds, Array.toList_setIfInBounds, Array.toList_setIfInBounds, List.take_set, List.take_set, List.take_set, htake]
      exact flat3_set f x l k (by omega)
theorem row3_cells {α : Type} {f : α → V3} {W : World} {lo : Nat} {t : TypeId} {g n cap : Nat} {l : List α} (h : W.ownsRow lo t 3 (.slice (some ⟨g, 0, none⟩) n cap) n (flat3 f l)) (hn : l.length = n) (k : Nat) (hk : k < l.length) :
    W.cell? ⟨g, k * 3, none⟩ = some (f l[k]).1 ∧ W.cell? ⟨g, k * 3 + 1, none⟩ = some (f l[k]).2.1 ∧ W.cell? ⟨g, k * 3 + 2, none⟩ = some (f l[k]).2.2 := by
  obtain ⟨x0, x1, x2⟩ := flat3_at f l k hk
  exact ⟨(h.cellAt _ (by omega)).trans x0, (h.cellAt _ (by omega)).trans x1, (h.cellAt _ (by omega)).trans x2⟩
theorem row_frozen {W : World} {lo : Nat} {t : TypeId} {sz g n cap : Nat} {xs : List Value} (h : W.ownsRow lo t sz (.slice (some ⟨g, 0, none⟩) n cap) n xs) (j : Nat) : W.frozen? ⟨g, j, none⟩ = false := by
  rcases h.2 with ⟨h0, _⟩ | ⟨g', cap', cur, he, hg1, hg2, _⟩
  · cases h0
  · simp only [Value.slice.injEq, true_and, Option.some.injEq, Addr.mk.injEq] at he
    obtain ⟨⟨rfl, _⟩, _⟩ := he
    simp [World.frozen?, hg2]

end Go.Proofs.YtnahpghbodmdbaaDoor
