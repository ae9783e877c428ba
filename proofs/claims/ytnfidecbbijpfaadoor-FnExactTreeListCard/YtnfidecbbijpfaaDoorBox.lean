/- For the laws of a tree and a path: a copy of a path as long as its room; a tree in a box. -/
import Derived.Test.YtnfidecbbijpfaaDoorProg
import Derived.Test.YtnfidecbbijpfaaDoorTo
import Derived.Test.YtnfidecbbijpfaaDoorPRep
namespace Go.Proofs.YtnfidecbbijpfaaDoor
open Go.RowKit

set_option maxHeartbeats 1000000 in
theorem toStringS_cap (l : List ByteArray) (v : Value) (w : World) (lo hi : Nat) (hv : StrsAt w lo hi v l) (hhi : hi ≤ w.heap.size) (hl : l.length ≤ 1048576) :
    Calls Tryd.prog 9 #[v] w fun e w' => ∃ v', e = .returned v' ∧ OwnStrs w' w.heap.size w'.heap.size w.heap.size v' l ∧ Below w.heap.size w w' ∧ w'.heap.size = w.heap.size + 1 ∧ ∃ a, v' = .slice a l.length l.length := by
  obtain ⟨a, cap, rfl, _, hs, hc⟩ := hv
  have HS : Hid (∀ (i : Nat) (h : i < l.length), l[i].size ≤ maxLen) := hs
  clear hs
  have hmk := run_make_row' (P := Tryd.prog) 22 9 (.string ⟨#[]⟩) 16 Tryd.underlying22 info_string rfl .i64 .i64 l.length (by omega) (by omega)
  go_enter Tryd.func9, Tryd.ntmps9
  go_wp2
  go_loopw [4] (fun i wr => ∃ (k : Nat), k ≤ l.length ∧ i = .int .i64 k ∧ Hid (Below w.heap.size w wr) ∧ Hid (wr.heap.size = w.heap.size + 1) ∧
    Hid (wr.rowIs w.heap.size 9 l.length (strRow l k))) (fun i _ => l.length - (intOf i).toNat)
  case atStart =>
    refine ⟨0, Nat.zero_le _, rfl, (Below.refl _ _).alloc (Nat.le_refl _) _, by show _ = _; simp, ?_⟩
    exact (World.rowIs_made w (.string ⟨#[]⟩) l.length 9).congr fun j _ => by simp [strRow]
  case round =>
    obtain ⟨k, hk, rfl, HB, HZ, HR⟩ := hrel
    by_cases hlt : k < l.length
    · obtain ⟨b, o, rfl, hb1, hb2, hcell⟩ := hc (by omega)
      have hck := hcell k hlt
      rw [← HB.out.cell (p := ⟨b, _, none⟩) (by show b < w.heap.size; omega)] at hck
      have hcw := HR.out.cell hlt
      have hfw := HR.out.frozen k
      clear hc hcell hmk
      go_wp2
      go_roundw
      case rel =>
        exact ⟨k + 1, by omega, by go_num, HB.out.setCell (Nat.le_refl _) _, by show _ = _; simp [World.setCell]; exact HZ.out, (HR.out.set k _).congr fun j _ => strRow_set l k hlt j⟩
      case measure => simp [intOf]; omega
    · go_wp2
      go_ret
      refine ⟨_, rfl, ⟨⟨_, _, rfl, fun _ => rfl⟩, by unfold maxLen; omega, HS.out, fun _ => ⟨Nat.le_refl _, HR.out.lt⟩, fun i hi => ⟨?_, HR.out.frozen i⟩⟩, HB.out, HZ.out, _, rfl⟩
      rw [HR.out.cell hi, strRow_at l k hlt i hi]


/-- A tree in a box B, its memory from lo on and below hi. -/
def RepBox (m : Nat) (u : T m) (c0 c1 c2 : Value) (B lo hi : Nat) (nv kv : Value) (W : World) : Prop := Blk W B #[c0, c1, c2, nv, kv] 32 ∧ Rep W lo hi m u nv kv ∧ hi ≤ W.heap.size
theorem RepBox.below {m : Nat} {u : T m} {c0 c1 c2 : Value} {B lo hi : Nat} {nv kv : Value} {W W' : World} (h : RepBox m u c0 c1 c2 B lo hi nv kv W) (hb : Below W.heap.size W W') : RepBox m u c0 c1 c2 B lo hi nv kv W' :=
  ⟨h.1.below hb h.1.lt, Rep.keep hb h.2.2 _ _ _ _ h.2.1, Nat.le_trans h.2.2 hb.size⟩
theorem RepBox.belowB {m : Nat} {u : T m} {c0 c1 c2 : Value} {B lo hi : Nat} {nv kv : Value} {W W' : World} (h : RepBox m u c0 c1 c2 B lo hi nv kv W) {X : Nat} (hb : Below X W W') (h1 : B < X) (h2 : hi ≤ X) : RepBox m u c0 c1 c2 B lo hi nv kv W' :=
  ⟨h.1.below hb h1, Rep.keep hb h2 _ _ _ _ h.2.1, Nat.le_trans h.2.2 hb.size⟩

end Go.Proofs.YtnfidecbbijpfaaDoor
