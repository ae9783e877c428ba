/- Small things that many texts lean on: names hidden from the walk, the order of texts, rows of one's own, where a text is in names that ascend. -/
import Derived.Test.YtblcmnlbapbebaaDoorProg
import Derived.Test.YtblcmnlbapbebaaDoorRep
import Derived.Maps.AppendAt
namespace Go.Proofs.YtblcmnlbapbebaaDoor
open Go.RowKit

theorem hide {p : Prop} (h : p) : Hid p := h

theorem bytesLess_tri : ∀ (x y : List UInt8), Op.bytesLess x y = !(Op.bytesLess y x || y == x)
  | [], [] => by simp [Op.bytesLess]
  | _ :: _, [] => by simp [Op.bytesLess]
  | [], _ :: _ => by simp [Op.bytesLess]
  | a :: x, b :: y => by
    rw [Op.bytesLess, Op.bytesLess, bytesLess_tri x y]
    simp only [List.cons_beq_cons]
    rcases Nat.lt_trichotomy a.toNat b.toNat with h | h | h
    · have h1 : a < b := h
      have h2 : ¬ b < a := fun h' => by have : b.toNat < a.toNat := h'; omega
      have h3 : (a == b) = false := by rw [beq_eq_false_iff_ne]; intro e; rw [e] at h; omega
      have h4 : (b == a) = false := by rw [beq_eq_false_iff_ne]; intro e; rw [e] at h; omega
      simp [h1, h2, h3, h4]
    · have e : a = b := UInt8.toNat_inj.1 h
      subst e
      simp
    · have h1 : b < a := h
      have h2 : ¬ a < b := fun h' => by have : a.toNat < b.toNat := h'; omega
      have h3 : (a == b) = false := by rw [beq_eq_false_iff_ne]; intro e; rw [e] at h; omega
      simp [h1, h2, h3]

theorem bytesLess_trans : ∀ (x y z : List UInt8), Op.bytesLess x y = true → Op.bytesLess y z = true → Op.bytesLess x z = true
  | _, [], _, h, _ => by simp [Op.bytesLess] at h
  | _, _ :: _, [], _, h => by simp [Op.bytesLess] at h
  | [], _ :: _, _ :: _, _, _ => by simp [Op.bytesLess]
  | a :: x, b :: y, c :: z, h1, h2 => by
    rw [Op.bytesLess, Bool.or_eq_true, Bool.and_eq_true] at h1 h2 ⊢
    simp only [decide_eq_true_eq, beq_iff_eq] at h1 h2 ⊢
    rcases h1 with h1 | ⟨h1, h1'⟩ <;> rcases h2 with h2 | ⟨h2, h2'⟩
    · exact .inl (UInt8.lt_trans h1 h2)
    · subst h2; exact .inl h1
    · subst h1; exact .inl h2
    · subst h1 h2; exact .inr ⟨rfl, bytesLess_trans x y z h1' h2'⟩

theorem less_irrefl (x : List UInt8) : Op.bytesLess x x = false := by
  have := bytesLess_tri x x
  cases h : Op.bytesLess x x
  · rfl
  · rw [h] at this; simp at this

theorem toList_inj {x y : ByteArray} (h : x.toList = y.toList) : x = y := by
  rw [ByteArray.toList_eq, ByteArray.toList_eq] at h
  cases x; cases y
  simp only [ByteArray.mk.injEq]
  exact Array.toList_inj.1 h

theorem ownsRow_at {w : World} {base : Nat} {e : TypeId} {size : Nat} {v : Value} {n : Nat} {xs : List Value} (h : w.ownsRow base e size v n xs) (hn : 0 < n) : ∃ g cap, v = .slice (some ⟨g, 0, none⟩) n cap ∧ base ≤ g ∧ g < w.heap.size := by
  have hlt := h.lt
  rcases h.2 with ⟨_, h0⟩ | ⟨g, cap, cur, rfl, hb, hg, _⟩
  · omega
  · exact ⟨g, cap, rfl, hb, (hlt g rfl).2⟩

theorem ownsRow_same {w w' : World} {base : Nat} {e : TypeId} {size : Nat} {v : Value} {n : Nat} {xs : List Value} (h : w.ownsRow base e size v n xs) (hs : ∀ g, v.ownBlock = some g → w'.heap[g]? = w.heap[g]?) : w'.ownsRow base e size v n xs := by
  refine ⟨h.1, ?_⟩
  rcases h.2 with hn | ⟨g, cap, cur, rfl, hb, hgg, rest⟩
  · exact .inl hn
  · exact .inr ⟨g, cap, cur, rfl, hb, (hs g rfl).trans hgg, rest⟩

theorem ownsRow_form {w : World} {base : Nat} {e : TypeId} {size : Nat} {v : Value} {n : Nat} {xs : List Value} (h : w.ownsRow base e size v n xs) : ∃ a cap, v = .slice a n cap := by
  rcases h.2 with ⟨rfl, rfl⟩ | ⟨g, cap, cur, rfl, _⟩
  · exact ⟨none, 0, rfl⟩
  · exact ⟨_, cap, rfl⟩

theorem strs_same {w w' : World} {lo hi : Nat} {v : Value} {l : List ByteArray} (h : StrsAt w lo hi v l) (hs : SameIn lo hi w w') : StrsAt w' lo hi v l := by
  obtain ⟨a, cap, hv, hl, hsz, hc⟩ := h
  refine ⟨a, cap, hv, hl, hsz, fun h0 => ?_⟩
  obtain ⟨b, o, ha, h1, h2, hcell⟩ := hc h0
  exact ⟨b, o, ha, h1, h2, fun i hi => by rw [hs.cell (p := ⟨b, o + i, none⟩) h1 h2]; exact hcell i hi⟩

/-- A kid of whom names and kids are marked. -/
theorem ownStrs_blk {w w' : World} {lo hi b : Nat} {v : Value} {l : List ByteArray} (h : OwnStrs w lo hi b v l) (hs : 0 < l.length → w'.heap[b]? = w.heap[b]?) : OwnStrs w' lo hi b v l := by
  obtain ⟨p1, p2, p3, p4, p5⟩ := h
  refine ⟨p1, p2, p3, p4, fun i hi => ?_⟩
  have hb := hs (by omega)
  rw [World.cell?_of_block (a := ⟨b, i, none⟩) hb, World.frozen?_of_block (a := ⟨b, i, none⟩) hb]
  exact p5 i hi

theorem ownStrs_wide {w : World} {lo hi lo' hi' b : Nat} {v : Value} {l : List ByteArray} (h : OwnStrs w lo hi b v l) (h1 : lo' ≤ lo) (h2 : hi ≤ hi') : OwnStrs w lo' hi' b v l := ⟨h.1, h.2.1, h.2.2.1, fun h0 => by have := h.2.2.2.1 h0; omega, h.2.2.2.2⟩

theorem undrewB {B : Nat} {w w' : World} (h : Below B w.drew w') : Below B w w' := ⟨h.os, h.tape, h.output, h.size, h.block⟩

theorem info_S : ∃ i, Tryd.prog.info? 9 = some i ∧ i.zero = some (.string ⟨#[]⟩) ∧ i.size = 1 ∧ i.bytes = 16 := by
  obtain ⟨i, hi, h⟩ := Option.map_eq_some_iff.1 (show (Tryd.prog.info? 9).map (fun i => (i.zero, i.size, i.bytes)) = some (some (.string ⟨#[]⟩), 1, 16) by kernel_rfl)
  simp only [Prod.mk.injEq] at h
  exact ⟨i, hi, h.1, h.2.1, h.2.2⟩

theorem ownStrs_of_row {w : World} {base : Nat} {v : Value} {l : List ByteArray} (h : w.ownsRow base 9 1 v l.length (l.map .string)) (hl : l.length ≤ maxLen) (hs : ∀ (i : Nat) (h : i < l.length), l[i].size ≤ maxLen) (b : Nat) (hb : v.ownBlock = some b ∨ l = []) :
    OwnStrs w base w.heap.size b v l := by
  obtain ⟨a, cap, rfl⟩ := ownsRow_form h
  refine ⟨⟨a, cap, rfl, fun h0 => ?_⟩, hl, hs, fun h0 => ?_, fun i hi => ?_⟩
  · obtain ⟨g, cap', hv, _, _⟩ := ownsRow_at h h0
    simp only [Value.slice.injEq, true_and] at hv
    obtain ⟨rfl, rfl⟩ := hv
    rcases hb with hb | rfl
    · simp [Value.ownBlock] at hb; rw [hb]
    · simp at h0
  · rcases hb with hb | rfl
    · exact h.lt b hb
    · simp at h0
  · obtain ⟨g, cap', hv, _, _⟩ := ownsRow_at h (by omega)
    simp only [Value.slice.injEq, true_and] at hv
    obtain ⟨rfl, rfl⟩ := hv
    have hg : g = b := by
      rcases hb with hb | rfl
      · simpa [Value.ownBlock] using hb
      · simp at hi
    subst hg
    refine ⟨?_, h.frozenAt i⟩
    rw [h.cellAt i (by omega), List.getElem?_map, List.getElem?_eq_getElem hi]; rfl

theorem ownStrs_nil (w : World) (lo hi b : Nat) (a : Option Addr) (cap : Nat) : OwnStrs w lo hi b (.slice a 0 cap) [] :=
  ⟨⟨a, cap, rfl, fun h => by simp at h⟩, Nat.zero_le _, fun i h => by simp at h, fun h => by simp at h, fun i h => by simp at h⟩

theorem Blk.atn {w : World} {n : Nat} {A : Array Value} {t : TypeId} (h : w.heap.size = n) : Blk (w.alloc (.cells A t)) n A t := by rw [← h]; exact Blk.new w A t

/-- Each name comes ahead of all behind it. -/
def Asc (l : List ByteArray) : Prop := ∀ (p q : Nat) (hp : p < l.length) (hq : q < l.length), p < q → Op.bytesLess l[p].toList l[q].toList = true

def hasB (l : List ByteArray) (s : ByteArray) : Bool := l.any (fun x => x.toList == s.toList)

theorem hasB_yes {l : List ByteArray} {s : ByteArray} {p : Nat} (h : p < l.length) (e : l[p] = s) : hasB l s = true := List.any_eq_true.2 ⟨l[p], List.getElem_mem h, by rw [e]; simp⟩

theorem hasB_no {l : List ByteArray} {s : ByteArray} (h : ∀ (p : Nat) (h : p < l.length), l[p] ≠ s) : hasB l s = false := List.any_eq_false.2 fun x hx => by
  obtain ⟨p, hp, rfl⟩ := List.getElem_of_mem hx
  intro e
  exact h p hp (toList_inj (by simpa using e))

/-- Where a text is in names, or would be. -/
structure Found (l : List ByteArray) (s : ByteArray) (pos : Nat) : Prop where
  le : pos ≤ l.length
  low : ∀ (p : Nat) (h : p < l.length), p < pos → Op.bytesLess l[p].toList s.toList = true
  high : ∀ (p : Nat) (h : p < l.length), pos ≤ p → Op.bytesLess l[p].toList s.toList = false
  yes : hasB l s = true → ∃ h : pos < l.length, l[pos] = s
  no : hasB l s = false → ∀ (p : Nat) (h : p < l.length), l[p] ≠ s





end Go.Proofs.YtblcmnlbapbebaaDoor
