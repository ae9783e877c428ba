/- Words gathered in a row, and joined. -/
import Derived.Test.YtigammadhpgahaaDoorTxtP
import Derived.Test.YtigammadhpgahaaDoorShelf
import Derived.Test.YtigammadhpgahaaDoorLow
import Derived.Laws.AppendOwn
import Derived.Deep.OwnRows
namespace Go.Proofs.YtigammadhpgahaaDoor
open Go.RowKit

/-- The words so far, in a row of their own above all that stood at W3. -/
structure WdR (B : Nat) (W3 : World) (v : Value) (l : List ByteArray) (wx : World) : Prop where
  below : Below B W3 wx
  row : wx.ownsRow B 9 1 v l.length (l.map .string)
  size : B ≤ W3.heap.size
theorem WdR.step {B : Nat} {W3 : World} {v : Value} {l : List ByteArray} {wx wy : World} (h : WdR B W3 v l wx) (hb : Below wx.heap.size wx wy) : WdR B W3 v l wy :=
  ⟨h.below.trans (hb.mono (Nat.le_trans h.size h.below.size)), ownsRow_same h.row fun g hg => hb.block g (h.row.lt g hg).2, h.size⟩
theorem WdR.le {B : Nat} {W3 : World} {v : Value} {l : List ByteArray} {wx : World} (h : WdR B W3 v l wx) : B ≤ wx.heap.size := Nat.le_trans h.size h.below.size
theorem WdR.app {B : Nat} {W3 : World} {v v' : Value} {l : List ByteArray} {y : ByteArray} {wx wy : World} {o : Obj} (h : WdR B W3 v l wx) (hr : wy.ownsRow B 9 1 v' (l.length + 1) (l.map .string ++ [.string y])) (hg : (wx.alloc o).grownBy wy v.ownBlock) : WdR B W3 v' (l ++ [y]) wy := by
  refine ⟨(h.below.alloc h.le o).grown hg (by have := h.le; simp; omega) (fun k hk => (h.row.lt k hk).1), ?_, h.size⟩
  simpa using hr
theorem WdR.two {B : Nat} {W3 wx : World} (a b : ByteArray) (h : Below B W3 wx) (hs : B ≤ W3.heap.size) : WdR B W3 (.slice (some ⟨wx.heap.size, 0, none⟩) 2 2) [a, b] (wx.alloc (.cells #[.string a, .string b] 9)) := by
  have hz := h.size
  refine ⟨h.alloc (by omega) _, ⟨rfl, .inr ⟨wx.heap.size, 2, #[.string a, .string b], rfl, by omega, heap_alloc_new wx _, Nat.le_refl _, by decide, rfl, rfl⟩⟩, hs⟩
theorem WdR.cells {B : Nat} {W3 : World} {v : Value} {l : List ByteArray} {wx : World} (h : WdR B W3 v l wx) (h0 : 0 < l.length) : ∃ g cap, v = .slice (some ⟨g, 0, none⟩) l.length cap ∧ g < wx.heap.size ∧ l.length ≤ cap ∧ ∀ (j : Nat) (x : ByteArray), l[j]? = some x → wx.cell? ⟨g, 0 + j, none⟩ = some (.string x) := by
  have hr := h.row
  obtain ⟨g, cap, rfl, hg1, hg2⟩ := ownsRow_at hr h0
  have hcap : l.length ≤ cap := by
    rcases hr.2 with ⟨_, q⟩ | ⟨g2, cap2, cur, q3, q4, q5, q6, _⟩
    · omega
    · simp only [Value.slice.injEq] at q3
      omega
  refine ⟨g, cap, rfl, hg2, hcap, fun j x hx => ?_⟩
  have hj : j < l.length := (List.getElem?_eq_some_iff.1 hx).1
  rw [Nat.zero_add, hr.cellAt j (by omega), List.getElem?_map, hx]
  rfl

theorem join2 (a b : ByteArray) : tx (Lib.join ([a, b].map (·.data.toList)) [32]) = a ++ ⟨#[32]⟩ ++ b := by
  apply ByteArray.ext; simp [Lib.join]
theorem join3 (a b c : ByteArray) : tx (Lib.join ([a, b, c].map (·.data.toList)) [32]) = a ++ ⟨#[32]⟩ ++ b ++ ⟨#[32]⟩ ++ c := by
  apply ByteArray.ext; simp [Lib.join]
theorem join4 (a b c d : ByteArray) : tx (Lib.join ([a, b, c, d].map (·.data.toList)) [32]) = a ++ ⟨#[32]⟩ ++ b ++ ⟨#[32]⟩ ++ c ++ ⟨#[32]⟩ ++ d := by
  apply ByteArray.ext; simp [Lib.join]

theorem joinW_any {B : Nat} {W3 : World} {v : Value} {l : List ByteArray} {wx : World} (t : ByteArray) (h : WdR B W3 v l wx) (h0 : 0 < l.length) (ht : tx (Lib.join (l.map (·.data.toList)) [32]) = t) (hz : t.size ≤ 1000) (hl : l.length ≤ 4) :
    Calls Tryd.prog 20 #[v, .string ⟨#[32]⟩] wx fun e w' => e = .returned (.string t) ∧ Below wx.heap.size wx w' := by
  obtain ⟨g, cap, rfl, hg, hc, hcells⟩ := h.cells h0
  have hlen : (Lib.join (l.map (·.data.toList)) [32]).length ≤ 1000 := by
    have : (tx (Lib.join (l.map (·.data.toList)) [32])).size ≤ 1000 := by rw [ht]; exact hz
    simpa [tx, ByteArray.size] using this
  have hJ := Tryd.strings_Join g 0 cap l ⟨#[32]⟩ wx hcells hg (by omega) hc (by show (Lib.join (l.map (·.data.toList)) [32]).length ≤ _; omega)
  rw [← ht]
  exact hJ

end Go.Proofs.YtigammadhpgahaaDoor
