/- What PagesWrite answers: plain functions of values. -/
import Derived.Test.YtblcmnlbapbebaaDoorGtV
import Derived.Test.YtblcmnlbapbebaaDoorSvD
namespace Go.Proofs.YtblcmnlbapbebaaDoor
open Go.RowKit

theorem catP_size (P : List Pg) (v : Int) (lf : Nat) (c : List Nat) (e : Int) (h : chainV P v lf = some (c, e)) : (catP P c).size = lf := by
  have key : ∀ (f : Nat) (v : Int) (lf : Nat) (c : List Nat) (e : Int) (acc : ByteArray), lf ≤ f → chainV P v lf = some (c, e) → (c.foldl (fun acc a => acc ++ dataAt P a) acc).size = acc.size + lf := by
    intro f
    induction f with
    | zero =>
      intro v lf c e acc hf h
      by_cases h0 : v < 0
      · have hl : lf = 0 := by omega
        obtain rfl := chainV_lo h0 h
        subst hl
        simp
      · by_cases h1 : (P.length : Int) ≤ v
        · exact (chainV_hi h1 h).elim
        · obtain ⟨k, rfl⟩ : ∃ k : Nat, v = (k : Int) := ⟨v.toNat, by omega⟩
          obtain ⟨r, rfl, hc, _⟩ := chainV_cons (by omega) h
          have := (fitB_out hc).2.2
          omega
    | succ f ih =>
      intro v lf c e acc hf h
      by_cases h0 : v < 0
      · obtain rfl := chainV_lo h0 h
        rw [chainV, if_pos h0] at h
        split at h
        · rename_i hl
          subst hl
          simp
        · cases h
      · by_cases h1 : (P.length : Int) ≤ v
        · exact (chainV_hi h1 h).elim
        · obtain ⟨k, rfl⟩ : ∃ k : Nat, v = (k : Int) := ⟨v.toNat, by omega⟩
          obtain ⟨r, rfl, hc, hr⟩ := chainV_cons (by omega) h
          obtain ⟨_, hd, hp⟩ := fitB_out hc
          have g2 := ih _ _ _ _ (acc ++ dataAt P k) (by omega) hr
          rw [List.foldl_cons, g2, ByteArray.size_append, dataAt_get P k (by omega), hd]
          omega
  have := key lf v lf c e ⟨#[]⟩ (Nat.le_refl _) h
  unfold catP
  rw [this]
  show 0 + lf = lf
  omega

def textV (P : List Pg) (n : Pn) : ByteArray := match chainV P n.first n.size.toNat with | some x => catP P x.1 | none => ⟨#[]⟩
/-- A name's line, its text, a newline. -/
def partV (P : List Pg) (n : Pn) : ByteArray := ((((n.name ++ ⟨#[32]⟩) ++ dgs n.size.toNat) ++ ⟨#[10]⟩) ++ textV P n) ++ ⟨#[10]⟩
def linesV (P : List Pg) (N : List Pn) : ByteArray := N.foldl (fun acc n => acc ++ partV P n) ⟨#[]⟩
def writeV (P : List Pg) (N : List Pn) : ByteArray := if okB P N = true then linesV P N ++ ⟨#[101, 110, 100, 10]⟩ else ⟨#[]⟩
theorem linesV_succ (P : List Pg) (N : List Pn) (k : Nat) (h : k < N.length) : linesV P (N.take (k + 1)) = linesV P (N.take k) ++ partV P N[k] := by
  unfold linesV
  rw [List.take_add_one, List.getElem?_eq_getElem h, List.foldl_append]
  rfl
theorem nameB_5 {s : ByteArray} (h : nameB s = true) : s.size ≤ 5 := by
  unfold nameB at h
  simp only [Bool.and_eq_true, decide_eq_true_eq] at h
  omega
theorem areB_name : ∀ (N : List Pn) (pr : Option ByteArray), areB pr N = true → ∀ (i : Nat) (h : i < N.length), nameB N[i].name = true
  | [], pr, _, i, h => by simp at h
  | n :: r, pr, ha, i, h => by
    rw [areB] at ha
    simp only [Bool.and_eq_true, decide_eq_true_eq] at ha
    obtain ⟨⟨⟨⟨h0, _⟩, _⟩, _⟩, h4⟩ := ha
    match i with
    | 0 => exact h0
    | i + 1 => exact areB_name r (some n.name) h4 i (by simpa using h)

/-- What is so of a name that is kept. -/
structure PartOk (P : List Pg) (n : Pn) (m : Nat) (c : List Nat) (e : Int) : Prop where
  size : n.size = (m : Int)
  few : m ≤ 3000
  name : n.name.size ≤ 5
  chain : chainV P n.first m = some (c, e)
  len : (catP P c).size = m
  part : partV P n = ((((n.name ++ ⟨#[32]⟩) ++ dgs m) ++ ⟨#[10]⟩) ++ catP P c) ++ ⟨#[10]⟩
theorem okV_part {P : List Pg} {N : List Pn} {T : List Bool} (h : okV P N = some T) (i : Nat) (hi : i < N.length) : ∃ m c e, PartOk P N[i] m c e := by
  have hn := okV_nms h
  obtain ⟨s0, s1⟩ := hn.size i hi
  obtain ⟨c, e, hc⟩ := hn.chain i hi
  obtain ⟨m, hm⟩ : ∃ m : Nat, N[i].size = (m : Int) := ⟨N[i].size.toNat, by omega⟩
  have hnm : nameB N[i].name = true := by
    unfold okV at h
    split at h
    · rename_i hh; exact areB_name N none hh.2.2 i hi
    · cases h
  have ht : N[i].size.toNat = m := by rw [hm]; simp
  have htx : textV P N[i] = catP P c := by unfold textV; rw [hc]
  rw [ht] at hc
  exact ⟨m, c, e, hm, by omega, nameB_5 hnm, hc, catP_size P _ _ _ _ hc, by unfold partV; rw [ht, htx]⟩
theorem PartOk.sized {P : List Pg} {n : Pn} {m : Nat} {c : List Nat} {e : Int} (h : PartOk P n m c e) : (partV P n).size ≤ 3029 := by
  rw [h.part]
  have h1 := dgs_size m (by have := h.few; omega)
  have h2 := h.len
  have h3 := h.few
  have h4 := h.name
  have e1 : (⟨#[32]⟩ : ByteArray).size = 1 := rfl
  have e2 : (⟨#[10]⟩ : ByteArray).size = 1 := rfl
  simp only [ByteArray.size_append, e1, e2]
  omega
theorem linesV_size {P : List Pg} {N : List Pn} {T : List Bool} (h : okV P N = some T) : ∀ k, k ≤ N.length → (linesV P (N.take k)).size ≤ k * 3029
  | 0, _ => by
    have : (linesV P (N.take 0)).size = 0 := by rw [List.take_zero]; rfl
    omega
  | k + 1, hk => by
    obtain ⟨m, c, e, hp⟩ := okV_part h k (by omega)
    rw [linesV_succ P N k (by omega), ByteArray.size_append]
    have := linesV_size h k (by omega)
    have := hp.sized
    omega
theorem writeV_no {P : List Pg} {N : List Pn} (h : okV P N = none) : writeV P N = ⟨#[]⟩ := by unfold writeV okB; rw [h]; rfl
theorem writeV_yes {P : List Pg} {N : List Pn} {T : List Bool} (h : okV P N = some T) : writeV P N = linesV P N ++ ⟨#[101, 110, 100, 10]⟩ := by unfold writeV okB; rw [h]; rfl

end Go.Proofs.YtblcmnlbapbebaaDoor
