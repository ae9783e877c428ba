/- What PagesGet answers: plain functions of values. -/
import Derived.Test.YtblcmnlbapbebaaDoorPgV
import Derived.Test.YtblcmnlbapbebaaDoorPgI
import Derived.Test.YtblcmnlbapbebaaDoorLow
namespace Go.Proofs.YtblcmnlbapbebaaDoor
open Go.RowKit

def dataAt (P : List Pg) (a : Nat) : ByteArray := match P[a]? with | some p => p.data | none => ⟨#[]⟩
theorem dataAt_get (P : List Pg) (a : Nat) (h : a < P.length) : dataAt P a = P[a].data := by unfold dataAt; rw [List.getElem?_eq_getElem h]
/-- The text of a chain. -/
def catP (P : List Pg) (c : List Nat) : ByteArray := c.foldl (fun acc a => acc ++ dataAt P a) ⟨#[]⟩
theorem catP_nil (P : List Pg) : catP P [] = ⟨#[]⟩ := rfl
theorem catP_snoc (P : List Pg) (c : List Nat) (a : Nat) : catP P (c ++ [a]) = catP P c ++ dataAt P a := by unfold catP; rw [List.foldl_append]; rfl

theorem chainV_cons {P : List Pg} {k lf : Nat} {rest : List Nat} {e : Int} (hk : k < P.length) (h : chainV P (k : Int) lf = some (rest, e)) : ∃ r, rest = k :: r ∧ fitB P[k] lf = true ∧ chainV P P[k].next (lf - min lf 40) = some (r, e) := by
  rw [chainV, if_neg (by omega), dif_pos (by simpa using hk)] at h
  simp only [Int.toNat_natCast] at h
  by_cases hc : fitB P[k] lf = true
  · rw [dif_pos hc] at h
    obtain ⟨⟨r, e'⟩, hr, hx⟩ := Option.map_eq_some_iff.1 h
    simp only [Prod.mk.injEq] at hx
    obtain ⟨rfl, rfl⟩ := hx
    exact ⟨r, rfl, hc, hr⟩
  · rw [dif_neg hc] at h; cases h
theorem chainV_lo {P : List Pg} {v : Int} {lf : Nat} {rest : List Nat} {e : Int} (hv : v < 0) (h : chainV P v lf = some (rest, e)) : rest = [] := by
  rw [chainV, if_pos hv] at h
  split at h
  · cases h; rfl
  · cases h
theorem chainV_hi {P : List Pg} {v : Int} {lf : Nat} {rest : List Nat} {e : Int} (hv : (P.length : Int) ≤ v) (h : chainV P v lf = some (rest, e)) : False := by
  rw [chainV, if_neg (by omega), dif_neg (by omega)] at h
  cases h
theorem chainV_len (P : List Pg) : ∀ (f : Nat) (v : Int) (lf : Nat) (c : List Nat) (e : Int), lf ≤ f → chainV P v lf = some (c, e) → 40 * c.length ≤ lf + 39 ∧ (catP P c).size ≤ lf := by
  have key : ∀ (f : Nat) (v : Int) (lf : Nat) (c : List Nat) (e : Int) (acc : ByteArray), lf ≤ f → chainV P v lf = some (c, e) → 40 * c.length ≤ lf + 39 ∧ (c.foldl (fun acc a => acc ++ dataAt P a) acc).size = acc.size + lf := by
    intro f
    induction f with
    | zero =>
      intro v lf c e acc hf h
      by_cases h0 : v < 0
      · have hl : lf = 0 := by omega
        obtain rfl := chainV_lo h0 h
        subst hl
        exact ⟨by simp, by simp⟩
      · by_cases h1 : (P.length : Int) ≤ v
        · exact (chainV_hi h1 h).elim
        · obtain ⟨k, rfl⟩ : ∃ k : Nat, v = (k : Int) := ⟨v.toNat, by omega⟩
          obtain ⟨r, rfl, hc, _⟩ := chainV_cons (by omega) h
          have := (fitB_out hc).2.2
          omega
    | succ f ih =>
      intro v lf c e acc hf h
      by_cases h0 : v < 0
      · obtain rfl := chainV_lo h0 h
        rw [chainV, if_pos h0] at h
        split at h
        · rename_i hl
          subst hl
          exact ⟨by simp, by simp⟩
        · cases h
      · by_cases h1 : (P.length : Int) ≤ v
        · exact (chainV_hi h1 h).elim
        · obtain ⟨k, rfl⟩ : ∃ k : Nat, v = (k : Int) := ⟨v.toNat, by omega⟩
          obtain ⟨r, rfl, hc, hr⟩ := chainV_cons (by omega) h
          obtain ⟨_, hd, hp⟩ := fitB_out hc
          obtain ⟨g1, g2⟩ := ih _ _ _ _ (acc ++ dataAt P k) (by omega) hr
          refine ⟨by rw [List.length_cons]; omega, ?_⟩
          rw [List.foldl_cons, g2, ByteArray.size_append, dataAt_get P k (by omega), hd]
          omega
  intro f v lf c e hf h
  obtain ⟨g1, g2⟩ := key f v lf c e ⟨#[]⟩ hf h
  exact ⟨g1, by unfold catP; rw [g2]; show 0 + lf ≤ lf; omega⟩

theorem areB_all : ∀ (N : List Pn) (pr : Option ByteArray), areB pr N = true → ∀ (i : Nat) (h : i < N.length), prB pr N[i].name = true ∧ 0 ≤ N[i].size ∧ N[i].size ≤ 3000
  | [], pr, _, i, h => by simp at h
  | n :: r, pr, ha, i, h => by
    rw [areB] at ha
    simp only [Bool.and_eq_true, decide_eq_true_eq] at ha
    obtain ⟨⟨⟨⟨_, h1⟩, h2⟩, h3⟩, h4⟩ := ha
    match i with
    | 0 => exact ⟨h1, h2, h3⟩
    | i + 1 =>
      obtain ⟨g1, g2, g3⟩ := areB_all r (some n.name) h4 i (by simpa using h)
      refine ⟨?_, g2, g3⟩
      cases pr with
      | none => rfl
      | some x => exact bytesLess_trans _ _ _ h1 g1

theorem areB_asc : ∀ (N : List Pn) (pr : Option ByteArray), areB pr N = true → ∀ (p q : Nat) (hp : p < N.length) (hq : q < N.length), p < q → Op.bytesLess N[p].name.toList N[q].name.toList = true
  | [], pr, _, p, q, hp, _, _ => by simp at hp
  | n :: r, pr, ha, p, q, hp, hq, hpq => by
    rw [areB] at ha
    simp only [Bool.and_eq_true, decide_eq_true_eq] at ha
    obtain ⟨_, h4⟩ := ha
    match p, q, hpq with
    | 0, q + 1, _ => exact (areB_all r (some n.name) h4 q (by simpa using hq)).1
    | p + 1, q + 1, _ => exact areB_asc r (some n.name) h4 p q (by simpa using hp) (by simpa using hq) (by omega)

theorem takeAll_mem (P : List Pg) : ∀ (N : List Pn) (T T' : List Bool), takeAll P N T = some T' → ∀ (i : Nat) (h : i < N.length), ∃ S S', takeV P N[i].first N[i].size.toNat S = some S'
  | [], _, _, _, i, h => by simp at h
  | n :: r, T, T', ht, i, h => by
    rw [takeAll] at ht
    obtain ⟨T1, h1, h2⟩ := Option.bind_eq_some_iff.1 ht
    match i with
    | 0 => exact ⟨T, T1, h1⟩
    | i + 1 => exact takeAll_mem P r T1 T' h2 i (by simpa using h)

/-- What is so of names that are ok. -/
structure NmsOk (P : List Pg) (N : List Pn) : Prop where
  len : P.length = 96
  few : N.length ≤ 16
  asc : Asc (N.map Pn.name)
  size : ∀ (i : Nat) (h : i < N.length), 0 ≤ N[i].size ∧ N[i].size ≤ 3000
  chain : ∀ (i : Nat) (h : i < N.length), ∃ c e, chainV P N[i].first N[i].size.toNat = some (c, e)
theorem okV_nms {P : List Pg} {N : List Pn} {T : List Bool} (h : okV P N = some T) : NmsOk P N := by
  unfold okV at h
  split at h
  · rename_i hh
    cases ht : takeAll P N (List.replicate 96 false) with
    | none => rw [ht] at h; cases h
    | some T' =>
      refine ⟨hh.1, hh.2.1, fun p q hp hq hpq => ?_, fun i hi => (areB_all N none hh.2.2 i hi).2, fun i hi => ?_⟩
      · have := areB_asc N none hh.2.2 p q (by simpa using hp) (by simpa using hq) hpq
        simpa using this
      · obtain ⟨S, S', hs⟩ := takeAll_mem P N _ _ ht i hi
        rw [takeV_chain P _ _ _ _ (Nat.le_refl _)] at hs
        obtain ⟨x, hx, _⟩ := Option.bind_eq_some_iff.1 hs
        exact ⟨x.1, x.2, hx⟩
  · cases h

/-- What both answer. -/
structure GetR (P : List Pg) (N : List Pn) (s t : ByteArray) (b : Bool) : Prop where
  no : okV P N = none → t = ⟨#[]⟩ ∧ b = false
  out : ∀ T, okV P N = some T → (∀ (i : Nat) (h : i < N.length), N[i].name ≠ s) → t = ⟨#[]⟩ ∧ b = false
  yes : ∀ T, okV P N = some T → ∀ (i : Nat) (h : i < N.length), N[i].name = s → b = true ∧ ∀ c e, chainV P N[i].first N[i].size.toNat = some (c, e) → t = catP P c
theorem GetR.same {P : List Pg} {N : List Pn} {s t t' : ByteArray} {b b' : Bool} (h : GetR P N s t b) (h' : GetR P N s t' b') : t' = t ∧ b' = b := by
  cases hk : okV P N with
  | none =>
    obtain ⟨rfl, rfl⟩ := h.no hk
    obtain ⟨rfl, rfl⟩ := h'.no hk
    exact ⟨rfl, rfl⟩
  | some T =>
    by_cases hi : ∃ (i : Nat) (h : i < N.length), N[i].name = s
    · obtain ⟨i, hl, he⟩ := hi
      obtain ⟨c, e, hc⟩ := (okV_nms hk).chain i hl
      obtain ⟨rfl, g1⟩ := h.yes T hk i hl he
      obtain ⟨rfl, g2⟩ := h'.yes T hk i hl he
      exact ⟨by rw [g1 c e hc, g2 c e hc], rfl⟩
    · have hn : ∀ (i : Nat) (h : i < N.length), N[i].name ≠ s := fun i hl he => hi ⟨i, hl, he⟩
      obtain ⟨rfl, rfl⟩ := h.out T hk hn
      obtain ⟨rfl, rfl⟩ := h'.out T hk hn
      exact ⟨rfl, rfl⟩
theorem GetR.mkNo {P : List Pg} {N : List Pn} {s : ByteArray} (h : okV P N = none) : GetR P N s ⟨#[]⟩ false := ⟨fun _ => ⟨rfl, rfl⟩, fun T hT => (by rw [h] at hT; cases hT), fun T hT => (by rw [h] at hT; cases hT)⟩
theorem GetR.mkOut {P : List Pg} {N : List Pn} {s : ByteArray} (hn : ∀ (i : Nat) (h : i < N.length), N[i].name ≠ s) : GetR P N s ⟨#[]⟩ false := ⟨fun _ => ⟨rfl, rfl⟩, fun _ _ _ => ⟨rfl, rfl⟩, fun _ _ i h he => (hn i h he).elim⟩
theorem GetR.mkYes {P : List Pg} {N : List Pn} {s : ByteArray} {T : List Bool} (hT : okV P N = some T) {i : Nat} (h : i < N.length) (he : N[i].name = s) {c : List Nat} {e : Int} (hc : chainV P N[i].first N[i].size.toNat = some (c, e)) : GetR P N s (catP P c) true := by
  refine ⟨fun h0 => (by rw [hT] at h0; cases h0), fun _ _ hn => (hn i h he).elim, fun _ _ j hj hje => ⟨rfl, fun c' e' hc' => ?_⟩⟩
  have hij : i = j := by
    have ha := (okV_nms hT).asc
    rcases Nat.lt_trichotomy i j with hl | hl | hl
    · have := ha i j (by simpa using h) (by simpa using hj) hl
      simp only [List.getElem_map, he, hje] at this
      rw [less_irrefl] at this; cases this
    · exact hl
    · have := ha j i (by simpa using hj) (by simpa using h) hl
      simp only [List.getElem_map, he, hje] at this
      rw [less_irrefl] at this; cases this
  subst hij
  rw [hc] at hc'
  cases hc'
  rfl

end Go.Proofs.YtblcmnlbapbebaaDoor
