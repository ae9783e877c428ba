/- What the laws of StoreAppend and StoreSave keep in mind. -/
import Derived.Test.YtofgadldopaniaaDoorSvX
import Derived.Test.YtofgadldopaniaaDoorSvL
namespace Go.Proofs.YtofgadldopaniaaDoor
open Go.RowKit

/-- What is handed back, each list in a block of its own. -/
def Outs (W : World) (R : List Rw) (gn : Int) (tx : ByteArray) (gs : List ByteArray) (nx cd : Int) (e : Ending) (w' : World) : Prop :=
  ∃ a c ga gc bR bG, e = .returned (.tuple #[.slice a R.length c, .agg #[.int .i64 gn, .string tx, .slice ga gs.length gc, .int .i64 nx], .int .i64 cd]) ∧ OwRws w' bR (bR + 1) bR (.slice a R.length c) R ∧ OwnStrs w' bG (bG + 1) bG (.slice ga gs.length gc) gs ∧ bR ≠ bG ∧
    (W.heap.size ≤ bR ∧ bR < w'.heap.size) ∧ (W.heap.size ≤ bG ∧ bG < w'.heap.size) ∧ Below W.heap.size W w'

theorem RwRow.block {W : World} {lo : Nat} {v : Value} {l : List Rw} (h : RwRow W lo v l) (hs : ∀ (i : Nat) (h : i < l.length), l[i].data.size ≤ maxLen) (d : Nat) : ∃ a c b, v = .slice a l.length c ∧ OwRws W b (b + 1) b (.slice a l.length c) l ∧ ((v.ownBlock = some b ∧ lo ≤ b ∧ b < W.heap.size) ∨ (b = d ∧ l = [])) := by
  obtain ⟨a, c, b, rfl, ho⟩ := h.ow hs
  by_cases h0 : l = []
  · subst h0
    exact ⟨a, c, d, rfl, ⟨⟨a, c, rfl, fun h => by simp at h⟩, Nat.zero_le _, fun i h => by simp at h, fun h => by simp at h, fun i h => by simp at h⟩, .inr ⟨rfl, rfl⟩⟩
  · have h1 : 0 < l.length := List.length_pos_iff.2 h0
    obtain ⟨⟨a', c', he, ha⟩, h2, h3, h4, h5⟩ := ho
    simp only [Value.slice.injEq, true_and] at he
    obtain ⟨rfl, rfl⟩ := he
    have ha := ha h1
    subst ha
    exact ⟨_, c, b, rfl, ⟨⟨_, c, rfl, fun _ => rfl⟩, h2, h3, fun _ => ⟨Nat.le_refl _, by omega⟩, h5⟩, .inl ⟨rfl, (h4 h1).1, (h4 h1).2⟩⟩
theorem StrRow.block {W : World} {lo : Nat} {v : Value} {l : List ByteArray} (h : StrRow W lo v l) (hl : l.length ≤ maxLen) (hs : ∀ (i : Nat) (h : i < l.length), l[i].size ≤ maxLen) (d : Nat) : ∃ a c b, v = .slice a l.length c ∧ OwnStrs W b (b + 1) b (.slice a l.length c) l ∧ ((v.ownBlock = some b ∧ lo ≤ b ∧ b < W.heap.size) ∨ (b = d ∧ l = [])) := by
  obtain ⟨a, c, b, rfl, ho⟩ := h.own hl hs
  by_cases h0 : l = []
  · subst h0
    exact ⟨a, c, d, rfl, ownStrs_nil _ _ _ _ _ _, .inr ⟨rfl, rfl⟩⟩
  · have h1 : 0 < l.length := List.length_pos_iff.2 h0
    obtain ⟨⟨a', c', he, ha⟩, h2, h3, h4, h5⟩ := ho
    simp only [Value.slice.injEq, true_and] at he
    obtain ⟨rfl, rfl⟩ := he
    have ha := ha h1
    subst ha
    exact ⟨_, c, b, rfl, ⟨⟨_, c, rfl, fun _ => rfl⟩, h2, h3, fun _ => ⟨Nat.le_refl _, by omega⟩, h5⟩, .inl ⟨rfl, (h4 h1).1, (h4 h1).2⟩⟩
theorem Out.outs {w w' : World} {V : List Rw × St × Int} {e : Ending} (h : Out w V e w') (h1 : ∀ (i : Nat) (h : i < V.1.length), V.1[i].data.size ≤ maxLen) (h2 : V.2.1.groups.length ≤ maxLen) (h3 : ∀ (i : Nat) (h : i < V.2.1.groups.length), V.2.1.groups[i].size ≤ maxLen) :
    Outs w V.1 V.2.1.gen V.2.1.text V.2.1.groups V.2.1.next V.2.2 e w' := by
  obtain ⟨hb, hz, v, gv, rfl, hR, hG, hne⟩ := h
  obtain ⟨a, c, b, rfl, hO, hB⟩ := hR.block h1 w.heap.size
  obtain ⟨ga, gc, g, rfl, hP, hC⟩ := hG.block h2 h3 (w.heap.size + 1)
  refine ⟨a, c, ga, gc, b, g, rfl, hO, hP, ?_, ?_, ?_, hb⟩
  · rcases hB with ⟨e1, q1, q2⟩ | ⟨rfl, _⟩
    · rcases hC with ⟨e2, q3, q4⟩ | ⟨rfl, _⟩
      · intro e; subst e; exact hne _ e1 e2
      · omega
    · rcases hC with ⟨e2, q3, q4⟩ | ⟨rfl, _⟩
      · omega
      · omega
  · rcases hB with ⟨e1, q1, q2⟩ | ⟨rfl, _⟩ <;> omega
  · rcases hC with ⟨e1, q1, q2⟩ | ⟨rfl, _⟩ <;> omega

/-- The boxes of the law, and what the specification gave. -/
structure Lg (w : World) (AQ A7 A9 A11 : Array Value) (R : List Rw) (gs : List ByteArray) (v3 g3 : Value) (L3 H3 b7 L9 H9 b9 L11 H11 b11 : Nat) (wi : World) : Prop where
  below : Below w.heap.size w wi
  q : Blk wi w.heap.size AQ 30
  box7 : Blk wi b7 A7 32
  rw7 : RwsAt wi L3 H3 v3 R
  s7 : StrsAt wi L3 H3 g3 gs
  box9 : Blk wi b9 A9 32
  box11 : Blk wi b11 A11 32
  ord : w.heap.size < L3 ∧ L3 ≤ H3 ∧ H3 ≤ b7 ∧ b7 < L9 ∧ L9 ≤ H9 ∧ H9 ≤ b9 ∧ b9 < L11 ∧ L11 ≤ H11 ∧ H11 ≤ b11
theorem Lg.size {w : World} {AQ A7 A9 A11 : Array Value} {R : List Rw} {gs : List ByteArray} {v3 g3 : Value} {L3 H3 b7 L9 H9 b9 L11 H11 b11 : Nat} {wi : World} (h : Lg w AQ A7 A9 A11 R gs v3 g3 L3 H3 b7 L9 H9 b9 L11 H11 b11 wi) : b11 < wi.heap.size := h.box11.lt
theorem Lg.step {w : World} {AQ A7 A9 A11 : Array Value} {R : List Rw} {gs : List ByteArray} {v3 g3 : Value} {L3 H3 b7 L9 H9 b9 L11 H11 b11 : Nat} {wi wj : World} (h : Lg w AQ A7 A9 A11 R gs v3 g3 L3 H3 b7 L9 H9 b9 L11 H11 b11 wi) (hb : Below wi.heap.size wi wj) : Lg w AQ A7 A9 A11 R gs v3 g3 L3 H3 b7 L9 H9 b9 L11 H11 b11 wj := by
  have h1 := h.size
  have h2 := h.ord
  exact ⟨h.below.trans (hb.mono h.below.size), h.q.below hb h.q.lt, h.box7.below hb h.box7.lt, h.rw7.keep hb (by omega), h.s7.keep hb (by omega), h.box9.below hb h.box9.lt, h.box11.below hb h.box11.lt, h.ord⟩
theorem Lg.inr {w : World} {AQ A7 A9 A11 : Array Value} {R : List Rw} {gs : List ByteArray} {v3 g3 : Value} {L3 H3 b7 L9 H9 b9 L11 H11 b11 : Nat} {wi wj : World} {lo hi : Nat} (h : Lg w AQ A7 A9 A11 R gs v3 g3 L3 H3 b7 L9 H9 b9 L11 H11 b11 wi) (hb : InR lo hi wi wj)
    (hr : (L9 ≤ lo ∧ hi ≤ H9) ∨ (L11 ≤ lo ∧ hi ≤ H11)) : Lg w AQ A7 A9 A11 R gs v3 g3 L3 H3 b7 L9 H9 b9 L11 H11 b11 wj := by
  have h1 := h.size
  have h2 := h.ord
  have blk : ∀ (b : Nat) (A : Array Value) (t : TypeId), Blk wi b A t → ¬ (lo ≤ b ∧ b < hi) → Blk wj b A t := fun b A t hB hn => (hb.block b hB.lt hn).trans hB
  have h3 : w.heap.size ≤ lo := by omega
  have h4 := h.below.size
  have hs : SameIn L3 H3 wi wj := hb.sameIn (fun k g1 g2 => by omega) (by omega)
  exact ⟨h.below.trans (hb.toBelow h3 h4), blk _ _ _ h.q (by omega), blk _ _ _ h.box7 (by omega), h.rw7.same hs, h.s7.same hs, blk _ _ _ h.box9 (by omega), blk _ _ _ h.box11 (by omega), h.ord⟩
theorem OwRws.one {w w' : World} {b : Nat} {v : Value} {l : List Rw} (h : OwRws w b (b + 1) b v l) (hb : Below w.heap.size w w') (hl : b < w.heap.size) : OwRws w' b (b + 1) b v l := h.same (sameIn_below hb hl)
theorem OwnStrs.one {w w' : World} {b : Nat} {v : Value} {l : List ByteArray} (h : OwnStrs w b (b + 1) b v l) (hb : Below w.heap.size w w') (hl : b < w.heap.size) : OwnStrs w' b (b + 1) b v l := h.same (sameIn_below hb hl)

theorem saveV_len (s : St) (t : ByteArray) (hl : s.groups.length ≤ 1048576) : (saveV s t).2.1.groups.length ≤ maxLen ∧ (t.size ≤ 1048576 → (saveV s t).1.length ≤ 1000000) ∧ (saveV s t).2.1.groups.length ≤ 1048577 := by
  unfold saveV
  unfold maxLen
  split
  · split
    · split
      · exact ⟨by show s.groups.length ≤ _; omega, fun _ => by simp, by show s.groups.length ≤ _; omega⟩
      · exact ⟨by simp, fun _ => by show (savedV _ t).length ≤ _; rw [savedV_length]; omega, by simp⟩
    · exact ⟨by show s.groups.length ≤ _; omega, fun _ => by simp, by show s.groups.length ≤ _; omega⟩
  · exact ⟨by simp [zeroS], fun _ => by simp, by simp [zeroS]⟩
theorem saveV_sizes (s : St) (t : ByteArray) (_ : s.groups.length ≤ 1048576) (ht : t.size ≤ 1048576) : ∀ (i : Nat) (h : i < (saveV s t).1.length), (saveV s t).1[i].data.size ≤ maxLen := by
  unfold saveV
  split
  · rename_i hok
    obtain ⟨⟨h1, h2, _⟩, _⟩ := okS_out s hok
    split
    · split
      · intro i h; simp at h
      · exact savedV_sizes _ t (by omega) (by omega)
    · intro i h; simp at h
  · intro i h; simp at h
theorem saveV_grp (s : St) (t : ByteArray) (hs : ∀ (i : Nat) (h : i < s.groups.length), s.groups[i].size ≤ maxLen) (_ : t.size ≤ 1048576) : ∀ (i : Nat) (h : i < (saveV s t).2.1.groups.length), (saveV s t).2.1.groups[i].size ≤ maxLen := by
  unfold saveV
  split
  · split
    · split
      · exact hs
      · intro i h; simp at h
    · exact hs
  · intro i h; simp [zeroS] at h

end Go.Proofs.YtofgadldopaniaaDoor
