/- For the laws that mark: what their count tells of marks; trees and lists of one's own, in boxes, and what leaves them alone. -/
import Derived.Test.YtifbbbgcdklaaaaProg
import Derived.Test.YtifbbbgcdklaaaaBox
import Derived.Test.YtifbbbgcdklaaaaHeld
namespace Go.Proofs.Ytifbbbgcdklaaaa
open Go.RowKit

theorem szKidsLoop_sum3 {α : Type} (f : α → Int → Int) (g : α → Nat) (hf : ∀ t L, 0 ≤ L → f t L ≤ L) (hg : ∀ t L, 0 ≤ L → 0 ≤ f t L → (g t : Int) ≤ 3 * (L - f t L)) : ∀ (l : List α) (L : Int), 0 ≤ L → 0 ≤ szKidsLoop f l L → ((l.map g).sum : Int) ≤ 3 * (L - szKidsLoop f l L)
  | [], L, _, _ => by simp [szKidsLoop]
  | t :: r, L, h0, h => by
    rw [szKidsLoop] at h ⊢
    split at h
    · omega
    · rename_i hn
      rw [if_neg hn]
      have h1 := hg t L h0 (by omega)
      have h2 := szKidsLoop_sum3 f g hf hg r (f t L) (by omega) h
      simp only [List.map_cons, List.sum_cons]
      omega
theorem szStrs_le3 (l : List ByteArray) (L : Int) (_h0 : 0 ≤ L) (h : 0 ≤ szStrs l L) : szStrs l L ≤ L - l.length := by
  have h1 := szStrs_len l L h
  rw [szStrs] at h ⊢
  split at h
  · omega
  · rename_i hn
    rw [if_neg hn]
    exact szLoop_le l _ (by omega)
theorem sum_three {α : Type} (g : α → Nat) : ∀ l : List α, (l.map (fun u => 3 + g u)).sum = 3 * l.length + (l.map g).sum
  | [] => rfl
  | t :: r => by simp only [List.map_cons, List.sum_cons, List.length_cons, sum_three g r]; omega
theorem szT_cnt : ∀ (n : Nat) (t : T n) (L : Int), 0 ≤ L → 0 ≤ szT n t L → (cntT n t : Int) ≤ 3 * (L - szT n t L)
  | 0, t, _, _, _ => Empty.elim (show Empty from t)
  | n + 1, t, L, h0, h => by
    obtain ⟨h1, h2, h3, h4, h5⟩ := szT_parts n t L h0 h
    rw [h5] at h ⊢
    have h6 := szKidsLoop_sum3 (szT n) (cntT n) (szT_le n) (szT_cnt n) t.kids _ h4 h
    have h7 : cntT (n + 1) t = t.names.length + (t.kids.map (fun u => 3 + cntT n u)).sum := rfl
    have h8 := szStrs_le3 t.names _ h1 h2
    rw [h7, sum_three]
    omega

def OwnBox (m : Nat) (u : T m) (c0 c1 c2 : Value) (B lo hi : Nat) (nv kv : Value) (W : World) : Prop := Blk W B #[c0, c1, c2, nv, kv] 34 ∧ Own W m lo hi u nv kv ∧ hi ≤ W.heap.size
theorem OwnBox.below {m : Nat} {u : T m} {c0 c1 c2 : Value} {B lo hi : Nat} {nv kv : Value} {W W' : World} (h : OwnBox m u c0 c1 c2 B lo hi nv kv W) (hb : Below W.heap.size W W') : OwnBox m u c0 c1 c2 B lo hi nv kv W' :=
  ⟨h.1.below hb h.1.lt, Own.same _ _ _ _ _ _ (sameIn_below hb h.2.2) h.2.1, Nat.le_trans h.2.2 hb.size⟩
theorem OwnBox.rep {m : Nat} {u : T m} {c0 c1 c2 : Value} {B lo hi : Nat} {nv kv : Value} {W : World} (h : OwnBox m u c0 c1 c2 B lo hi nv kv W) : RepBox m u c0 c1 c2 B lo hi nv kv W := ⟨h.1, Own.rep _ _ _ _ _ _ h.2.1, h.2.2⟩
theorem Blk.inr {w w' : World} {b lo hi : Nat} {A : Array Value} {t : TypeId} (h : Blk w b A t) (hb : InR lo hi w w') (hne : ¬ (lo ≤ b ∧ b < hi)) : Blk w' b A t := (hb.block b h.lt hne).trans h
theorem OwnBox.inr {m : Nat} {u : T m} {c0 c1 c2 : Value} {B lo hi : Nat} {nv kv : Value} {W W' : World} (h : OwnBox m u c0 c1 c2 B lo hi nv kv W) {a b : Nat} (hb : InR a b W W') (hB : ¬ (a ≤ B ∧ B < b)) (hd : hi ≤ a ∨ b ≤ lo) : OwnBox m u c0 c1 c2 B lo hi nv kv W' :=
  ⟨h.1.inr hb hB, Own.same _ _ _ _ _ _ (hb.sameIn (by omega) h.2.2) h.2.1, Nat.le_trans h.2.2 hb.size⟩

def OwnS (l : List ByteArray) (lo hi b : Nat) (v : Value) (W : World) : Prop := OwnStrs W lo hi b v l ∧ hi ≤ W.heap.size
theorem OwnS.below {l : List ByteArray} {lo hi b : Nat} {v : Value} {W W' : World} (h : OwnS l lo hi b v W) (hb : Below W.heap.size W W') : OwnS l lo hi b v W' := ⟨h.1.same (sameIn_below hb h.2), Nat.le_trans h.2 hb.size⟩
theorem OwnS.inr {l : List ByteArray} {lo hi b : Nat} {v : Value} {W W' : World} (h : OwnS l lo hi b v W) {x y : Nat} (hb : InR x y W W') (hd : hi ≤ x ∨ y ≤ lo) : OwnS l lo hi b v W' := ⟨h.1.same (hb.sameIn (by omega) h.2), Nat.le_trans h.2 hb.size⟩

/-- What the law keeps while it goes on: its own argument, what the specification gave, the arguments and the result of the call. -/
structure KS (w : World) (A : Array Value) (P6 P8 P9 P10 : World → Prop) (W : World) : Prop where
  below : Below w.heap.size w W
  box_ : Blk W w.heap.size A 25
  p6 : P6 W
  p8 : P8 W
  p9 : P9 W
  p10 : P10 W
def Clo (P : World → Prop) : Prop := ∀ W W', P W → Below W.heap.size W W' → P W'
theorem KS.next {w : World} {A : Array Value} {P6 P8 P9 P10 : World → Prop} {W W' : World} (h : KS w A P6 P8 P9 P10 W) (hc : Clo P6 ∧ Clo P8 ∧ Clo P9 ∧ Clo P10) (hb : Below W.heap.size W W') : KS w A P6 P8 P9 P10 W' :=
  ⟨h.below.trans (hb.mono h.below.size), h.box_.below hb h.box_.lt, hc.1 _ _ h.p6 hb, hc.2.1 _ _ h.p8 hb, hc.2.2.1 _ _ h.p9 hb, hc.2.2.2 _ _ h.p10 hb⟩
def Tru (_ : World) : Prop := True

/-- A list of texts, in memory from lo on and below hi. -/
def StrsIn (l : List ByteArray) (lo hi : Nat) (v : Value) (W : World) : Prop := StrsAt W lo hi v l ∧ hi ≤ W.heap.size
theorem StrsIn.below {l : List ByteArray} {lo hi : Nat} {v : Value} {W W' : World} (h : StrsIn l lo hi v W) (hb : Below W.heap.size W W') : StrsIn l lo hi v W' := ⟨h.1.keep hb h.2, Nat.le_trans h.2 hb.size⟩
theorem StrsIn.belowB {l : List ByteArray} {lo hi : Nat} {v : Value} {W W' : World} (h : StrsIn l lo hi v W) {X : Nat} (hb : Below X W W') (h2 : hi ≤ X) : StrsIn l lo hi v W' := ⟨h.1.keep hb h2, Nat.le_trans h.2 hb.size⟩

end Go.Proofs.Ytifbbbgcdklaaaa
