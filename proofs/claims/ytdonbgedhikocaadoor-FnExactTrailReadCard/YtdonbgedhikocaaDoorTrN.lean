/- What is so of a trail's marks and of the trie that they are put into; the trie at the beginning. -/
import Derived.Test.YtdonbgedhikocaaDoorTrAdd
import Derived.Test.YtdonbgedhikocaaDoorTkS
namespace Go.Proofs.YtdonbgedhikocaaDoor
open Go.RowKit

theorem beq_refl' (x : ByteArray) : (x.toList == x.toList) = true := by simp
theorem pathLt_irrefl : ∀ a : List ByteArray, pathLt a a = false
  | [] => rfl
  | x :: a => by rw [pathLt, beq_refl', if_pos rfl, pathLt_irrefl a]
theorem pathLt_cons {x y : ByteArray} {a b : List ByteArray} (h : pathLt (x :: a) (y :: b) = true) : (x = y ∧ pathLt a b = true) ∨ Op.bytesLess x.toList y.toList = true := by
  rw [pathLt] at h
  cases he : (x.toList == y.toList) with
  | true => rw [he, if_pos rfl] at h; exact .inl ⟨toList_inj (by simpa using he), h⟩
  | false => rw [he] at h; exact .inr (by simpa using h)
theorem pathLt_mk {x y : ByteArray} {a b : List ByteArray} (h : Op.bytesLess x.toList y.toList = true) : pathLt (x :: a) (y :: b) = true := by
  rw [pathLt]
  cases he : (x.toList == y.toList) with
  | true => rw [show x = y from toList_inj (by simpa using he), less_irrefl] at h; cases h
  | false => simpa using h
theorem pathLt_trans : ∀ a b c : List ByteArray, pathLt a b = true → pathLt b c = true → pathLt a c = true
  | _, [], _, h, _ => by cases ‹List ByteArray› <;> simp [pathLt] at h
  | _, _ :: _, [], _, h => by simp [pathLt] at h
  | [], _ :: _, _ :: _, _, _ => rfl
  | x :: a, y :: b, z :: c, h1, h2 => by
    rcases pathLt_cons h1 with ⟨rfl, g1⟩ | g1
    · rcases pathLt_cons h2 with ⟨rfl, g2⟩ | g2
      · rw [pathLt, beq_refl', if_pos rfl]; exact pathLt_trans a b c g1 g2
      · exact pathLt_mk g2
    · rcases pathLt_cons h2 with ⟨rfl, g2⟩ | g2
      · exact pathLt_mk g1
      · exact pathLt_mk (bytesLess_trans _ _ _ g1 g2)
theorem pathLt_pre : ∀ (q : List ByteArray) (j : Nat), pathLt q (q.take j) = false
  | [], j => by simp [pathLt]
  | _ :: _, 0 => rfl
  | x :: q, j + 1 => by rw [List.take_succ_cons, pathLt, beq_refl', if_pos rfl, pathLt_pre q j]
theorem pathLt_split : ∀ (p : List ByteArray) (y z : ByteArray) (r s : List ByteArray), pathLt (p ++ y :: r) (p ++ z :: s) = true → y = z ∨ Op.bytesLess y.toList z.toList = true
  | [], y, z, r, s, h => by
    rcases pathLt_cons h with ⟨e, _⟩ | h
    · exact .inl e
    · exact .inr h
  | x :: p, y, z, r, s, h => by
    rcases pathLt_cons h with ⟨_, h⟩ | h
    · exact pathLt_split p y z r s h
    · rw [less_irrefl] at h; cases h
theorem preB_take : ∀ (p : List ByteArray) (n : Nat), preB (p.take n) p = true
  | [], n => by simp [preB]
  | _ :: _, 0 => rfl
  | x :: p, n + 1 => by rw [List.take_succ_cons, preB, beq_refl', preB_take p n]; rfl
theorem take_of_pre : ∀ (q p : List ByteArray), preB q p = true → q = p.take q.length ∧ q.length ≤ p.length
  | [], p, _ => by simp
  | _ :: _, [], h => by simp [preB] at h
  | x :: q, y :: p, h => by
    rw [preB, Bool.and_eq_true] at h
    obtain ⟨h1, h2⟩ := take_of_pre q p h.2
    have e : y = x := toList_inj (by simpa using h.1)
    subst e
    exact ⟨by rw [List.length_cons, List.take_succ_cons, ← h1], by simp; exact h2⟩

/-- The trie holds the first i marks, no place but on the way to one. -/
structure Hold (l : List Mk) (i : Nat) (F : Tri) : Prop where
  get : ∀ (k : Nat) (h : k < l.length), k < i → getF F l[k].path = (l[k].sub, true)
  only : ∀ q, (getF F q).2 = true → ∃ (k : Nat) (h : k < l.length), k < i ∧ q = l[k].path
  way : ∀ q, (F q).isSome = true → q = [] ∨ ∃ (k : Nat) (h : k < l.length), k < i ∧ ∃ j, q = l[k].path.take j
  asc : ∀ (k m : Nat) (hkm : k < m) (h : m < l.length), m < i → pathLt (l[k]'(by omega)).path l[m].path = true

/-- The next mark comes behind all. -/
theorem Hold.next {l : List Mk} {i : Nat} {F : Tri} (H : Hold l i F) (hi : i < l.length) (hlt : (i == 0 || pathLt (mkAt l (i - 1)).path (mkAt l i).path) = true) (k : Nat) (hk : k < i) : pathLt (l[k]'(by omega)).path l[i].path = true := by
  have h1 : pathLt (l[i - 1]'(by omega)).path l[i].path = true := by
    rw [mkAt_at l (i - 1) (by omega), mkAt_at l i hi] at hlt
    rcases Bool.or_eq_true _ _ ▸ hlt with h | h
    · simp at h; omega
    · exact h
  by_cases e : k = i - 1
  · subst e; exact h1
  · exact pathLt_trans _ _ _ (H.asc k (i - 1) (by omega) (by omega) (by omega)) h1

theorem Hold.under {l : List Mk} {i : Nat} {F : Tri} (H : Hold l i F) (hi : i < l.length) : underF F l[i].path = !freeB l i i := by
  cases hf : freeB l i i with
  | true =>
    cases hu : underF F l[i].path with
    | false => rfl
    | true =>
      obtain ⟨n, hn, h⟩ := List.any_eq_true.1 hu
      rw [subAt, Bool.and_eq_true] at h
      obtain ⟨k, hk, hki, e⟩ := H.only _ h.1
      have h3 := H.get k hk hki
      rw [← e] at h3
      have h4 : l[k].sub = true := by have := h.2; rw [h3] at this; exact this
      have h5 := List.all_eq_true.1 hf k (List.mem_range.2 hki)
      rw [mkAt_at l k hk, mkAt_at l i hi, h4, ← e, preB_take] at h5
      simp at h5
  | false =>
    obtain ⟨k, hk, h⟩ := List.all_eq_false.1 hf
    have hki := List.mem_range.1 hk
    rw [mkAt_at l k (by omega), mkAt_at l i hi] at h
    have h2 : (l[k].sub && preB l[k].path l[i].path) = true := by simpa using h
    rw [Bool.and_eq_true] at h2
    obtain ⟨e, hle⟩ := take_of_pre _ _ h2.2
    refine any_yes (k := l[k].path.length) (by omega) ?_
    rw [subAt, ← e, H.get k (by omega) hki, h2.1]
    rfl

theorem Hold.fresh {l : List Mk} {i : Nat} {F : Tri} (H : Hold l i F) (hi : i < l.length) (hn : ∀ k (hk : k < i), pathLt (l[k]'(by omega)).path l[i].path = true) : (getF F l[i].path).2 = false := by
  cases h : (getF F l[i].path).2 with
  | false => rfl
  | true =>
    obtain ⟨k, hk, hki, e⟩ := H.only _ h
    have := hn k hki
    rw [← e, pathLt_irrefl] at this
    cases this

theorem Hold.none {l : List Mk} {i : Nat} {F : Tri} (H : Hold l i F) (hi : i < l.length) (hn : ∀ k (hk : k < i), pathLt (l[k]'(by omega)).path l[i].path = true) (h0 : l[i].path ≠ []) : F l[i].path = none := by
  cases h : F l[i].path with
  | none => rfl
  | some nd =>
    rcases H.way _ (by rw [h]; rfl) with e | ⟨k, hk, hki, j, e⟩
    · exact absurd e h0
    · have := hn k hki
      rw [e, pathLt_pre] at this
      cases this

theorem Hold.last {w : World} {lo tb c : Nat} {tag : Tag} {l : List Mk} {i : Nat} {F : Tri} (H : Hold l i F) (hi : i < l.length) (hn : ∀ k (hk : k < i), pathLt (l[k]'(by omega)).path l[i].path = true) (M : TM w lo tb c F tag) : Last F l[i].path c 0 := by
  intro j hj _ nd hnd
  have N := M.node _ _ hnd
  refine ⟨N.len, fun y hy => ?_⟩
  rcases H.way _ (N.kid y hy) with e | ⟨k, hk, hki, j', e⟩
  · have := congrArg List.length e; simp at this
  · have h1 := hn k hki
    have e1 : l[k].path = l[i].path.take j ++ y :: l[k].path.drop j' := by
      have h := (List.take_append_drop j' l[k].path).symm
      rw [← e, List.append_assoc] at h
      exact h
    have e2 : l[i].path = l[i].path.take j ++ l[i].path[j] :: l[i].path.drop (j + 1) := by
      rw [← List.drop_eq_getElem_cons hj, List.take_append_drop]
    exact pathLt_split (l[i].path.take j) y l[i].path[j] (l[k].path.drop j') (l[i].path.drop (j + 1)) (by rw [← e1, ← e2]; exact h1)

theorem Hold.step {l : List Mk} {i : Nat} {F F' : Tri} (H : Hold l i F) (hi : i < l.length) (hn : ∀ k (hk : k < i), pathLt (l[k]'(by omega)).path l[i].path = true) (h1 : getF F' l[i].path = (l[i].sub, true)) (h2 : ∀ q, q ≠ l[i].path → getF F' q = getF F q)
    (h3 : ∀ q, (F' q).isSome = true → (F q).isSome = true ∨ ∃ j, q = l[i].path.take j) : Hold l (i + 1) F' := by
  refine ⟨fun k hk hki => ?_, fun q hq => ?_, fun q hq => ?_, fun k m hkm hm hmi => ?_⟩
  · by_cases e : k = i
    · subst e; exact h1
    · have hne : l[k].path ≠ l[i].path := fun e2 => by
        have := hn k (by omega)
        rw [e2, pathLt_irrefl] at this
        cases this
      rw [h2 _ hne]
      exact H.get k hk (by omega)
  · by_cases e : q = l[i].path
    · exact ⟨i, hi, by omega, e⟩
    · rw [h2 q e] at hq
      obtain ⟨k, hk, hki, e2⟩ := H.only q hq
      exact ⟨k, hk, by omega, e2⟩
  · rcases h3 q hq with h | ⟨j, e⟩
    · rcases H.way q h with e | ⟨k, hk, hki, j, e⟩
      · exact .inl e
      · exact .inr ⟨k, hk, by omega, j, e⟩
    · exact .inr ⟨i, hi, by omega, j, e⟩
  · by_cases e : m = i
    · subst e; exact hn k hkm
    · exact H.asc k m hkm hm (by omega)

/-- The trie at the beginning. -/
def F0 (tb : Nat) : Tri := fun q => if q = [] then some ⟨tb, false, false, [], .slice none 0 0, .slice none 0 0⟩ else none
theorem F0_root (tb : Nat) : F0 tb [] = some ⟨tb, false, false, [], .slice none 0 0, .slice none 0 0⟩ := if_pos rfl
theorem F0_else (tb : Nat) {q : List ByteArray} (h : q ≠ []) : F0 tb q = none := if_neg h
theorem hold_zero (l : List Mk) (tb : Nat) : Hold l 0 (F0 tb) := by
  refine ⟨fun k _ h => by omega, fun q hq => ?_, fun q hq => ?_, fun k m _ _ h => by omega⟩
  · by_cases e : q = []
    · subst e; rw [getF, F0_root] at hq; cases hq
    · rw [getF, F0_else tb e] at hq; cases hq
  · by_cases e : q = []
    · exact .inl e
    · rw [F0_else tb e] at hq; cases hq
theorem tq_zero {w : World} {tb lo : Nat} {ty : TypeId} (hb : Blk w tb #[.bool false, .bool false, .slice none 0 0, .slice none 0 0, .slice none 0 0, .func (.func 33) #[] #[]] ty) (hlo : lo ≤ tb) : TQ w lo tb 0 (F0 tb) (fun _ => (0, [])) (.slice none 0 0) [] := by
  have hnil : ∀ g, (Value.slice none 0 0).ownBlock = some g → False := fun g h => by cases h
  refine ⟨⟨⟨_, F0_root tb, rfl⟩, fun p nd hp => ?_, fun p x hp => ?_, by omega⟩, ⟨hb.cell 4 _ rfl, hb.frozen 4, hb.cell 5 _ rfl, World.ownsRow_nil _ _ _ _, fun g h => (hnil g h).elim, Nat.le_refl _, (fun v h => by cases h), by have := hb.lt; omega⟩⟩
  · by_cases e : p = []
    · subst e
      rw [F0_root] at hp
      cases hp
      refine ⟨hb.cell 0 _ rfl, hb.cell 1 _ rfl, hb.cell 2 _ rfl, hb.cell 3 _ rfl, fun j _ => hb.frozen j, hlo, hb.lt, rfl, World.ownsRow_nil _ _ _ _, fun g h => (hnil g h).elim, World.ownsRow_nil _ _ _ _, fun g h => (hnil g h).elim, ?_, (fun y h => by cases h), Nat.le_refl _, (fun y h => by cases h)⟩
      intro i j hi; simp at hi
    · rw [F0_else tb e] at hp; cases hp
  · rw [F0_else tb (by simp)] at hp; cases hp

end Go.Proofs.YtdonbgedhikocaaDoor
