/- markStringS: a list of strings in memory of its own becomes the list of its marks. -/
import Derived.Test.YtofgadldopaniaaDoorProg
import Derived.Test.YtofgadldopaniaaDoorMark
import Derived.Test.YtofgadldopaniaaDoorAsd
namespace Go.Proofs.YtofgadldopaniaaDoor
open Go.RowKit

/-- Only blocks from lo on and below hi are other than they were (and new ones). -/
structure InR (lo hi : Nat) (w w' : World) : Prop where
  os : w'.os = w.os
  tape : w'.tape = w.tape
  output : w'.output = w.output
  size : w.heap.size ≤ w'.heap.size
  block : ∀ k, k < w.heap.size → ¬ (lo ≤ k ∧ k < hi) → w'.heap[k]? = w.heap[k]?
theorem InR.refl (lo hi : Nat) (w : World) : InR lo hi w w := ⟨rfl, rfl, rfl, Nat.le_refl _, fun _ _ _ => rfl⟩
theorem InR.trans {lo hi : Nat} {a b c : World} (h : InR lo hi a b) (k : InR lo hi b c) : InR lo hi a c :=
  ⟨k.os.trans h.os, k.tape.trans h.tape, k.output.trans h.output, Nat.le_trans h.size k.size, fun j h1 h2 => (k.block j (Nat.lt_of_lt_of_le h1 h.size) h2).trans (h.block j h1 h2)⟩
theorem InR.wide {lo hi lo' hi' : Nat} {a b : World} (h : InR lo hi a b) (h1 : lo' ≤ lo) (h2 : hi ≤ hi') : InR lo' hi' a b :=
  ⟨h.os, h.tape, h.output, h.size, fun j g1 g2 => h.block j g1 (by omega)⟩
theorem InR.of_below {lo hi : Nat} {b c : World} (k : Below b.heap.size b c) : InR lo hi b c := ⟨k.os, k.tape, k.output, k.size, fun j h1 _ => k.block j h1⟩
theorem InR.below {lo hi : Nat} {a b c : World} (h : InR lo hi a b) (k : Below b.heap.size b c) : InR lo hi a c := h.trans (.of_below k)
theorem InR.set {lo hi : Nat} {a w : World} (h : InR lo hi a w) {p : Addr} (hp : lo ≤ p.block ∧ p.block < hi) (u : Value) : InR lo hi a (w.setCell p u) :=
  ⟨h.os, h.tape, h.output, by simpa using h.size, fun j h1 h2 => (Below.heap_setCell _ _ _ _ (by intro e; subst e; exact h2 hp)).trans (h.block j h1 h2)⟩
theorem InR.toBelow {lo hi B : Nat} {w w' : World} (h : InR lo hi w w') (h1 : B ≤ lo) (h2 : B ≤ w.heap.size) : Below B w w' := ⟨h.os, h.tape, h.output, h.size, fun k hk => h.block k (by omega) (by omega)⟩
theorem InR.sameIn {lo hi a b : Nat} {w w' : World} (h : InR lo hi w w') (h1 : ∀ k, a ≤ k → k < b → ¬ (lo ≤ k ∧ k < hi)) (h2 : b ≤ w.heap.size) : SameIn a b w w' := fun k g1 g2 => h.block k (by omega) (h1 k g1 g2)

def markL (k : Nat) (l : List ByteArray) : List ByteArray := (List.range l.length).map (fun i => mtext (k + i))
theorem markL_length (k : Nat) (l : List ByteArray) : (markL k l).length = l.length := by simp [markL]
theorem markL_get (k : Nat) (l : List ByteArray) (i : Nat) (h : i < (markL k l).length) : (markL k l)[i] = mtext (k + i) := by simp [markL]

/-- The first j of them are marked. -/
structure MarkedS (w : World) (lo hi b : Nat) (l : List ByteArray) (k j : Nat) (wr : World) : Prop where
  aside : Aside b w wr
  inr : InR lo hi w wr
  cells : ∀ (i : Nat) (h : i < l.length), wr.cell? ⟨b, i, none⟩ = some (.string (if i < j then mtext (k + i) else l[i])) ∧ wr.frozen? ⟨b, i, none⟩ = false

theorem MarkedS.step {w : World} {lo hi b : Nat} {l : List ByteArray} {k j : Nat} {wr w1 : World} (M : MarkedS w lo hi b l k j wr) (hb : b < w.heap.size) (hlo : lo ≤ b ∧ b < hi) (hj : j < l.length) (hB : Below wr.heap.size wr w1) :
    MarkedS w lo hi b l k (j + 1) (w1.setCell ⟨b, j, none⟩ (.string (mtext (k + j)))) := by
  have hs := M.aside.size
  refine ⟨(M.aside.below hB).set (.inl rfl) _, (M.inr.below hB).set hlo _, fun i hi => ?_⟩
  have h1 : w1.cell? ⟨b, i, none⟩ = _ := (hB.cell (p := ⟨b, i, none⟩) (by show b < _; omega)).trans (M.cells i hi).1
  refine ⟨?_, ?_⟩
  · by_cases e : i = j
    · subst e
      rw [World.cell?_setCell_same' _ _ _ (by rw [h1]; rfl), if_pos (by omega)]
    · rw [World.cell?_setCell_other _ _ _ _ (by intro h; injection h with _ h2 _; omega), h1]
      by_cases e2 : i < j
      · rw [if_pos e2, if_pos (by omega)]
      · rw [if_neg e2, if_neg (by omega)]
  · rw [World.frozen?_setCell]
    exact (hB.frozen (p := ⟨b, i, none⟩) (by show b < _; omega)).trans (M.cells i hi).2

set_option maxHeartbeats 1000000 in
theorem markStringS_any (l : List ByteArray) (v : Value) (b k : Nat) (w : World) (lo hi : Nat) (ho : OwnStrs w lo hi b v l) (hhi : hi ≤ w.heap.size) (hk0 : 0 < k) (hk : k + l.length ≤ 1073741824) :
    Calls Tryd.prog 38 #[v, .int .i64 k] w fun e w' => e = .returned (.int .i64 ((k + l.length : Nat) : Int)) ∧ OwnStrs w' lo hi b v (markL k l) ∧ InR lo hi w w' ∧ Aside b w w' := by
  obtain ⟨⟨a, cap, rfl, ha⟩, hl, hsz, hblk, hcell⟩ := ho
  have HF : Hid (∀ wr, MarkedS w lo hi b l k l.length wr → OwnStrs wr lo hi b (.slice a l.length cap) (markL k l) ∧ InR lo hi w wr ∧ Aside b w wr) := fun wr M =>
    ⟨⟨⟨a, cap, by rw [markL_length], fun h => ha (by rw [markL_length] at h; exact h)⟩, by rw [markL_length]; exact hl, fun i h => by rw [markL_get]; have := mtext_size (k + i); rw [markL_length] at h; unfold maxLen; omega,
      fun h => hblk (by rw [markL_length] at h; exact h), fun i h => by rw [markL_get]; rw [markL_length] at h; have := M.cells i h; rw [if_pos h] at this; exact this⟩, M.inr, M.aside⟩
  have HS : Hid (MarkedS w lo hi b l k 0 w) := ⟨Aside.refl _ _, InR.refl _ _ _, fun i h => hcell i h⟩
  have HBk := hide hblk
  clear hsz hcell hblk
  unfold maxLen at hl
  go_enter Tryd.func38, Tryd.ntmps38
  go_wp2_with fail
  go_loopw [1, 5] (fun x i wr => ∃ (j : Nat), j ≤ l.length ∧ x = .int .i64 ((k + j : Nat) : Int) ∧ i = .int .i64 j ∧ Hid (MarkedS w lo hi b l k j wr)) (fun _ i _ => l.length - (intOf i).toNat)
  case atStart => exact ⟨0, Nat.zero_le _, rfl, rfl, HS⟩
  case round =>
    obtain ⟨j, hj, rfl, rfl, M⟩ := hrel
    by_cases hlt : j < l.length
    · have ha' := ha (by omega)
      subst ha'
      have hb := HBk.out (by omega)
      have hltI : (j : Int) < (l.length : Int) := by omega
      have hc := (M.out.cells j hlt).1
      have hf := (M.out.cells j hlt).2
      have hbs : b < wr.heap.size := by have := M.out.aside.size; omega
      go_wp2_with fail
      refine (markText_any (k + j) wr (by omega) (by omega)).mono ?_
      rintro e w1 ⟨rfl, hB1⟩
      have HB1 := hide hB1
      have hc1 := (hB1.cell (p := ⟨b, j, none⟩) hbs).trans hc
      have hf1 := (hB1.frozen (p := ⟨b, j, none⟩) hbs).trans hf
      clear hB1 hc hf
      go_wp2_with fail
      go_roundw
      case rel => exact ⟨j + 1, by omega, by go_num, by go_num, M.out.step (by omega) hb hlt HB1.out⟩
      case measure => simp [intOf]; omega
    · have e1 : j = l.length := by omega
      subst e1
      go_wp2_with fail
      go_ret
      exact ⟨rfl, HF.out _ M.out⟩

end Go.Proofs.YtofgadldopaniaaDoor
