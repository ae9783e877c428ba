/- When pages are ok: the specification's way (the chain of each name, then what is seen), the program's way (page by page taken), and that both come to the same. Plain functions of values. -/
import Derived.Test.YtblcmnlbapbebaaDoorPgs
import Derived.Test.YtblcmnlbapbebaaDoorLeaf
namespace Go.Proofs.YtblcmnlbapbebaaDoor
open Go.RowKit

/-- One page of a text is as it must be, left bytes being still to come. -/
def fitB (p : Pg) (left : Nat) : Bool := p.used && decide (p.data.size = min left 40) && decide (0 < left)
theorem fitB_out {p : Pg} {left : Nat} (h : fitB p left = true) : p.used = true ∧ p.data.size = min left 40 ∧ 0 < left := by
  unfold fitB at h
  rw [Bool.and_eq_true, Bool.and_eq_true] at h
  exact ⟨h.1.1, of_decide_eq_true h.1.2, of_decide_eq_true h.2⟩

/-- The specification's chain: the places, and the Next that ends it. -/
def chainV (P : List Pg) (at_ : Int) (left : Nat) : Option (List Nat × Int) :=
  if at_ < 0 then (if left = 0 then some ([], at_) else none)
  else if h : at_.toNat < P.length then
    (if hc : fitB P[at_.toNat] left = true then (chainV P P[at_.toNat].next (left - min left 40)).map fun x => (at_.toNat :: x.1, x.2) else none)
  else none
termination_by left
decreasing_by have := (fitB_out hc).2.2; omega

/-- Each is marked, none twice. -/
def seeB (S : List Bool) : List Nat → Option (List Bool)
  | [] => some S
  | a :: c => if S.getD a false = true then none else seeB (S.set a true) c

/-- The program's way: page by page. -/
def takeV (P : List Pg) (at_ : Int) (left : Nat) (T : List Bool) : Option (List Bool) :=
  if h : 0 ≤ at_ ∧ at_.toNat < P.length then
    (if hc : fitB P[at_.toNat] left = true ∧ T.getD at_.toNat false = false then takeV P P[at_.toNat].next (left - min left 40) (T.set at_.toNat true) else none)
  else if at_ = -1 ∧ left = 0 then some T else none
termination_by left
decreasing_by have := (fitB_out hc.1).2.2; omega

theorem takeV_chain (P : List Pg) : ∀ (f : Nat) (at_ : Int) (left : Nat) (T : List Bool), left ≤ f → takeV P at_ left T = (chainV P at_ left).bind fun x => if x.2 = -1 then seeB T x.1 else none
  | f, at_, left, T, hf => by
    rw [takeV, chainV]
    by_cases h0 : at_ < 0
    · rw [dif_neg (by omega), if_pos h0]
      by_cases hl : left = 0
      · rw [if_pos hl]
        by_cases h1 : at_ = -1
        · rw [if_pos ⟨h1, hl⟩]; simp [h1, seeB]
        · rw [if_neg (by omega)]; simp [h1]
      · rw [if_neg (by omega), if_neg hl]; rfl
    · rw [if_neg h0]
      by_cases h1 : at_.toNat < P.length
      · rw [dif_pos ⟨by omega, h1⟩, dif_pos h1]
        by_cases hc : fitB P[at_.toNat] left = true
        · rw [dif_pos hc]
          have hl := (fitB_out hc).2.2
          obtain ⟨f, rfl⟩ : ∃ f', f = f' + 1 := ⟨f - 1, by omega⟩
          by_cases ht : T.getD at_.toNat false = false
          · rw [dif_pos ⟨hc, ht⟩, takeV_chain P f _ _ _ (by omega)]
            cases hch : chainV P P[at_.toNat].next (left - min left 40) with
            | none => rfl
            | some x =>
              simp only [Option.map_some, Option.bind_some, seeB, ht, Bool.false_eq_true, if_false]
          · rw [dif_neg (fun h => ht h.2)]
            have ht' : T.getD at_.toNat false = true := by revert ht; cases T.getD at_.toNat false <;> simp
            cases hch : chainV P P[at_.toNat].next (left - min left 40) with
            | none => rfl
            | some x =>
              simp only [Option.map_some, Option.bind_some, seeB, ht', if_true, ite_self]
        · rw [dif_neg hc, dif_neg (fun h => hc h.1)]; rfl
      · rw [dif_neg (by omega), dif_neg h1, if_neg (by omega)]; rfl

theorem chainV_end (P : List Pg) : ∀ (f : Nat) (at_ : Int) (left : Nat) (c : List Nat) (e : Int), left ≤ f → chainV P at_ left = some (c, e) → e < 0 ∧ (e = at_ ∨ ∃ (a : Nat) (h : a < P.length), P[a].next = e) ∧ ∀ a ∈ c, a < P.length
  | f, at_, left, c, e, hf, h => by
    rw [chainV] at h
    by_cases h0 : at_ < 0
    · rw [if_pos h0] at h
      by_cases hl : left = 0
      · rw [if_pos hl] at h
        cases h
        exact ⟨h0, .inl rfl, fun a ha => (by cases ha)⟩
      · rw [if_neg hl] at h; cases h
    · rw [if_neg h0] at h
      by_cases h1 : at_.toNat < P.length
      · rw [dif_pos h1] at h
        by_cases hc : fitB P[at_.toNat] left = true
        · rw [dif_pos hc] at h
          have hl := (fitB_out hc).2.2
          obtain ⟨f, rfl⟩ : ∃ f', f = f' + 1 := ⟨f - 1, by omega⟩
          cases hch : chainV P P[at_.toNat].next (left - min left 40) with
          | none => rw [hch] at h; cases h
          | some x =>
            obtain ⟨c', e'⟩ := x
            rw [hch] at h
            simp only [Option.map_some, Option.some.injEq, Prod.mk.injEq] at h
            obtain ⟨rfl, rfl⟩ := h
            obtain ⟨g1, g2, g3⟩ := chainV_end P f _ _ _ _ (by omega) hch
            refine ⟨g1, ?_, fun a ha => ?_⟩
            · rcases g2 with g2 | g2
              · exact .inr ⟨_, h1, g2.symm⟩
              · exact .inr g2
            · rcases List.mem_cons.1 ha with rfl | ha
              · exact h1
              · exact g3 a ha
        · rw [dif_neg hc] at h; cases h
      · rw [dif_neg h1] at h; cases h

theorem set_getD (T : List Bool) (a b : Nat) (hb : b < T.length) : (T.set b true).getD a false = (if a = b then true else T.getD a false) := by
  rw [List.getD_eq_getElem?_getD, List.getD_eq_getElem?_getD, List.getElem?_set]
  by_cases h : b = a
  · subst h; simp [hb]
  · rw [if_neg h, if_neg (fun e => h e.symm)]

theorem takeV_out (P : List Pg) : ∀ (f : Nat) (at_ : Int) (left : Nat) (T T' : List Bool), left ≤ f → T.length = P.length → takeV P at_ left T = some T' →
    T'.length = P.length ∧ -1 ≤ at_ ∧ ∀ (a : Nat) (h : a < P.length), (T.getD a false = true → T'.getD a false = true) ∧ (T'.getD a false = true → T.getD a false = true ∨ (P[a].used = true ∧ -1 ≤ P[a].next))
  | f, at_, left, T, T', hf, hT, h => by
    rw [takeV] at h
    by_cases h0 : 0 ≤ at_ ∧ at_.toNat < P.length
    · rw [dif_pos h0] at h
      by_cases hc : fitB P[at_.toNat] left = true ∧ T.getD at_.toNat false = false
      · rw [dif_pos hc] at h
        obtain ⟨hu, _, hl⟩ := fitB_out hc.1
        obtain ⟨f, rfl⟩ : ∃ f', f = f' + 1 := ⟨f - 1, by omega⟩
        obtain ⟨g1, g2, g3⟩ := takeV_out P f _ _ _ _ (by omega) (by rw [List.length_set]; exact hT) h
        refine ⟨g1, by omega, fun a ha => ?_⟩
        obtain ⟨k1, k2⟩ := g3 a ha
        rw [set_getD _ _ _ (by omega)] at k1 k2
        refine ⟨fun ht => k1 (by rw [ht, ite_self]), fun ht => ?_⟩
        by_cases e : a = at_.toNat
        · subst e; exact .inr ⟨hu, g2⟩
        · have := k2 ht
          rw [if_neg e] at this
          exact this
      · rw [dif_neg hc] at h; cases h
    · rw [dif_neg h0] at h
      by_cases h1 : at_ = -1 ∧ left = 0
      · rw [if_pos h1] at h
        cases h
        exact ⟨hT, by omega, fun a ha => ⟨id, .inl⟩⟩
      · rw [if_neg h1] at h; cases h

/-! ### all names -/
def lessB (a b : ByteArray) : Bool := Op.bytesLess a.toList b.toList
def prB : Option ByteArray → ByteArray → Bool
  | none, _ => true
  | some x, y => lessB x y
/-- A kept name is ok by itself, and behind the one ahead of it. -/
def areB : Option ByteArray → List Pn → Bool
  | _, [] => true
  | pr, n :: r => nameB n.name && prB pr n.name && decide (0 ≤ n.size) && decide (n.size ≤ 3000) && areB (some n.name) r
def takeAll (P : List Pg) : List Pn → List Bool → Option (List Bool)
  | [], T => some T
  | n :: r, T => (takeV P n.first n.size.toNat T).bind (takeAll P r)
def freeB (p : Pg) : Bool := !p.used && decide (p.data.size = 0) && decide (p.next = -1)
/-- Each page that is not taken is as in new pages. -/
def restB (P : List Pg) (T : List Bool) : Bool := decide (∀ (a : Nat) (h : a < P.length), T.getD a false = false → freeB P[a] = true)
/-- The program's answer: which pages are taken. -/
def okV (P : List Pg) (N : List Pn) : Option (List Bool) :=
  if P.length = 96 ∧ N.length ≤ 16 ∧ areB none N = true then
    match takeAll P N (List.replicate 96 false) with
    | none => none
    | some T => if restB P T = true then some T else none
  else none
def okB (P : List Pg) (N : List Pn) : Bool := (okV P N).isSome

/-- The specification's way. -/
def seenAll (P : List Pg) : Option ByteArray → List Pn → List Bool → Option (List Bool)
  | _, [], S => some S
  | pr, n :: r, S => if nameB n.name = true ∧ prB pr n.name = true ∧ 0 ≤ n.size ∧ n.size ≤ 3000 ∧ -1 ≤ n.first then
      (chainV P n.first n.size.toNat).bind fun c => (seeB S c.1).bind (seenAll P (some n.name) r)
    else none
def endB (p : Pg) (s : Bool) : Bool := (p.used == s) && (p.used || (decide (p.data.size = 0) && decide (p.next = -1))) && decide (-1 ≤ p.next)
def specB (P : List Pg) (N : List Pn) : Bool :=
  if P.length = 96 ∧ N.length ≤ 16 then
    match seenAll P none N (List.replicate 96 false) with
    | none => false
    | some S => decide (∀ (a : Nat) (h : a < P.length), endB P[a] (S.getD a false) = true)
  else false

theorem seeB_length : ∀ (c : List Nat) (S S' : List Bool), seeB S c = some S' → S'.length = S.length
  | [], S, S', h => by cases h; rfl
  | a :: c, S, S', h => by
    rw [seeB] at h
    split at h
    · cases h
    · rw [seeB_length c _ _ h, List.length_set]

theorem takeAll_out (P : List Pg) : ∀ (N : List Pn) (T T' : List Bool), T.length = P.length → takeAll P N T = some T' →
    T'.length = P.length ∧ (∀ n ∈ N, -1 ≤ n.first) ∧ ∀ (a : Nat) (h : a < P.length), T'.getD a false = true → T.getD a false = true ∨ (P[a].used = true ∧ -1 ≤ P[a].next)
  | [], T, T', hT, h => by cases h; exact ⟨hT, fun n hn => (by cases hn), fun a _ => .inl⟩
  | n :: r, T, T', hT, h => by
    rw [takeAll] at h
    cases ht : takeV P n.first n.size.toNat T with
    | none => rw [ht] at h; cases h
    | some T1 =>
      rw [ht] at h
      obtain ⟨g1, g2, g3⟩ := takeV_out P _ _ _ _ _ (Nat.le_refl _) hT ht
      obtain ⟨k1, k2, k3⟩ := takeAll_out P r T1 T' g1 h
      refine ⟨k1, fun m hm => ?_, fun a ha h' => ?_⟩
      · rcases List.mem_cons.1 hm with rfl | hm
        · exact g2
        · exact k2 m hm
      · rcases k3 a ha h' with h'' | h''
        · exact (g3 a ha).2 h''
        · exact .inr h''

/-- What the program takes the specification has seen. -/
theorem seen_of_take (P : List Pg) : ∀ (N : List Pn) (pr : Option ByteArray) (T T' : List Bool), T.length = P.length → areB pr N = true → takeAll P N T = some T' → seenAll P pr N T = some T'
  | [], pr, T, T', hT, ha, h => h
  | n :: r, pr, T, T', hT, ha, h => by
    rw [takeAll] at h
    cases ht : takeV P n.first n.size.toNat T with
    | none => rw [ht] at h; cases h
    | some T1 =>
      rw [ht] at h
      obtain ⟨g1, g2, g3⟩ := takeV_out P _ _ _ _ _ (Nat.le_refl _) hT ht
      simp only [areB, Bool.and_eq_true, decide_eq_true_eq] at ha
      rw [seenAll, if_pos ⟨ha.1.1.1.1, ha.1.1.1.2, ha.1.1.2, ha.1.2, g2⟩]
      rw [takeV_chain P _ _ _ _ (Nat.le_refl _)] at ht
      cases hc : chainV P n.first n.size.toNat with
      | none => rw [hc] at ht; cases ht
      | some x =>
        rw [hc] at ht
        simp only [Option.bind_some] at ht ⊢
        split at ht
        · rw [ht]
          exact seen_of_take P r _ _ _ g1 ha.2 h
        · cases ht

/-- What the specification has seen the program takes, as long as no Next is below -1. -/
theorem take_of_seen (P : List Pg) (hn : ∀ (a : Nat) (h : a < P.length), -1 ≤ P[a].next) : ∀ (N : List Pn) (pr : Option ByteArray) (S S' : List Bool), seenAll P pr N S = some S' → areB pr N = true ∧ takeAll P N S = some S'
  | [], pr, S, S', h => ⟨rfl, h⟩
  | n :: r, pr, S, S', h => by
    rw [seenAll] at h
    split at h
    · rename_i hh
      cases hc : chainV P n.first n.size.toNat with
      | none => rw [hc] at h; cases h
      | some x =>
        rw [hc] at h
        simp only [Option.bind_some] at h
        cases hs : seeB S x.1 with
        | none => rw [hs] at h; cases h
        | some S1 =>
          rw [hs] at h
          obtain ⟨k1, k2⟩ := take_of_seen P hn r _ _ _ h
          obtain ⟨g1, g2, g3⟩ := chainV_end P _ _ _ x.1 x.2 (Nat.le_refl _) hc
          have he : x.2 = -1 := by
            rcases g2 with g2 | ⟨a, ha, g2⟩
            · have := hh.2.2.2.2; omega
            · have := hn a ha; omega
          refine ⟨?_, ?_⟩
          · simp only [areB, Bool.and_eq_true, decide_eq_true_eq]
            exact ⟨⟨⟨⟨hh.1, hh.2.1⟩, hh.2.2.1⟩, hh.2.2.2.1⟩, k1⟩
          · rw [takeAll, takeV_chain P _ _ _ _ (Nat.le_refl _), hc]
            simp only [Option.bind_some, he, if_true, hs]
            exact k2
    · cases h

theorem rep_getD (n a : Nat) : (List.replicate n false).getD a false = false := by
  rw [List.getD_eq_getElem?_getD, List.getElem?_replicate]; split <;> rfl

theorem specB_okB (P : List Pg) (N : List Pn) : specB P N = okB P N := by
  rw [Bool.eq_iff_iff]
  unfold specB okB okV
  by_cases hl : P.length = 96 ∧ N.length ≤ 16
  · rw [if_pos hl]
    constructor
    · intro h
      cases hs : seenAll P none N (List.replicate 96 false) with
      | none => rw [hs] at h; cases h
      | some S =>
        rw [hs] at h
        have h := of_decide_eq_true h
        obtain ⟨k1, k2⟩ := take_of_seen P (fun a ha => by have := h a ha; simp only [endB, Bool.and_eq_true, decide_eq_true_eq] at this; exact this.2) N none _ _ hs
        rw [if_pos ⟨hl.1, hl.2, k1⟩, k2]
        simp only
        rw [if_pos]
        · rfl
        · refine decide_eq_true fun a ha ht => ?_
          have := h a ha
          rw [ht] at this
          simp only [endB, Bool.and_eq_true, Bool.or_eq_true, decide_eq_true_eq, beq_iff_eq] at this
          obtain ⟨⟨h1, h2⟩, _⟩ := this
          simp only [freeB, Bool.and_eq_true, decide_eq_true_eq]
          rcases h2 with h2 | h2
          · rw [h1] at h2; cases h2
          · exact ⟨⟨by rw [h1]; rfl, h2.1⟩, h2.2⟩
    · intro h
      by_cases ha : areB none N = true
      · rw [if_pos ⟨hl.1, hl.2, ha⟩] at h
        cases ht : takeAll P N (List.replicate 96 false) with
        | none => rw [ht] at h; cases h
        | some T =>
          rw [ht] at h
          simp only at h
          by_cases hr : restB P T = true
          · have hr' := of_decide_eq_true hr
            have hT : (List.replicate 96 false).length = P.length := by rw [List.length_replicate]; exact hl.1.symm
            rw [seen_of_take P N none _ _ hT ha ht]
            obtain ⟨g1, g2, g3⟩ := takeAll_out P N _ _ hT ht
            refine decide_eq_true fun a ha' => ?_
            simp only [endB, Bool.and_eq_true, Bool.or_eq_true, decide_eq_true_eq, beq_iff_eq]
            cases hb : T.getD a false with
            | true =>
              rcases g3 a ha' hb with h1 | ⟨h1, h2⟩
              · rw [rep_getD] at h1; cases h1
              · exact ⟨⟨h1, .inl h1⟩, h2⟩
            | false =>
              have := hr' a ha' hb
              simp only [freeB, Bool.and_eq_true, decide_eq_true_eq] at this
              obtain ⟨⟨h1, h2⟩, h3⟩ := this
              exact ⟨⟨by simpa using h1, .inr ⟨h2, h3⟩⟩, by omega⟩
          · rw [if_neg hr] at h; cases h
      · rw [if_neg (fun h' => ha h'.2.2)] at h; cases h
  · rw [if_neg hl, if_neg (fun h => hl ⟨h.1, h.2.1⟩)]; simp

end Go.Proofs.YtblcmnlbapbebaaDoor
