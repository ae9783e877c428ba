/- For the law of TreeAt: what the laws' count tells of marks; the copies that the law keeps, and what leaves them alone. -/
import Derived.Test.YtnfidecbbijpfaaProg
import Derived.Test.YtnfidecbbijpfaaHeld
import Derived.Test.YtnfidecbbijpfaaOkLaw
namespace Go.Proofs.Ytnfidecbbijpfaa
open Go.RowKit

set_option maxHeartbeats 1000000 in
theorem toStringS_cap (l : List ByteArray) (v : Value) (w : World) (lo hi : Nat) (hv : StrsAt w lo hi v l) (hhi : hi ≤ w.heap.size) (hl : l.length ≤ 1048576) :
    Calls Try.prog 15 #[v] w fun e w' => ∃ v', e = .returned v' ∧ OwnStrs w' w.heap.size w'.heap.size w.heap.size v' l ∧ Below w.heap.size w w' ∧ w'.heap.size = w.heap.size + 1 ∧ ∃ a, v' = .slice a l.length l.length := by
  obtain ⟨a, cap, rfl, _, hs, hc⟩ := hv
  have HS : Hid (∀ (i : Nat) (h : i < l.length), l[i].size ≤ maxLen) := hs
  clear hs
  have hmk := run_make_row' (P := Try.prog) 22 9 (.string ⟨#[]⟩) 16 Try.underlying22 info_string rfl .i64 .i64 l.length (by omega) (by omega)
  go_enter Try.func15, Try.ntmps15
  go_wp2
  go_loopw [4] (fun i wr => ∃ (k : Nat), k ≤ l.length ∧ i = .int .i64 k ∧ Hid (Below w.heap.size w wr) ∧ Hid (wr.heap.size = w.heap.size + 1) ∧
    Hid (wr.rowIs w.heap.size 9 l.length (strRow l k))) (fun i _ => l.length - (intOf i).toNat)
  case atStart =>
    refine ⟨0, Nat.zero_le _, rfl, (Below.refl _ _).alloc (Nat.le_refl _) _, by show _ = _; simp, ?_⟩
    exact (World.rowIs_made w (.string ⟨#[]⟩) l.length 9).congr fun j _ => by simp [strRow]
  case round =>
    obtain ⟨k, hk, rfl, HB, HZ, HR⟩ := hrel
    by_cases hlt : k < l.length
    · obtain ⟨b, o, rfl, hb1, hb2, hcell⟩ := hc (by omega)
      have hck := hcell k hlt
      rw [← HB.out.cell (p := ⟨b, _, none⟩) (by show b < w.heap.size; omega)] at hck
      have hcw := HR.out.cell hlt
      have hfw := HR.out.frozen k
      clear hc hcell hmk
      go_wp2
      go_roundw
      case rel =>
        exact ⟨k + 1, by omega, by go_num, HB.out.setCell (Nat.le_refl _) _, by show _ = _; simp [World.setCell]; exact HZ.out, (HR.out.set k _).congr fun j _ => strRow_set l k hlt j⟩
      case measure => simp [intOf]; omega
    · go_wp2
      go_ret
      refine ⟨_, rfl, ⟨⟨_, _, rfl, fun _ => rfl⟩, by unfold maxLen; omega, HS.out, fun _ => ⟨Nat.le_refl _, HR.out.lt⟩, fun i hi => ⟨?_, HR.out.frozen i⟩⟩, HB.out, HZ.out, _, rfl⟩
      rw [HR.out.cell hi, strRow_at l k hlt i hi]


theorem szKidsLoop_sum3 {α : Type} (f : α → Int → Int) (g : α → Nat) (hf : ∀ t L, 0 ≤ L → f t L ≤ L) (hg : ∀ t L, 0 ≤ L → 0 ≤ f t L → (g t : Int) ≤ 3 * (L - f t L)) : ∀ (l : List α) (L : Int), 0 ≤ L → 0 ≤ szKidsLoop f l L → ((l.map g).sum : Int) ≤ 3 * (L - szKidsLoop f l L)
  | [], L, _, _ => by simp [szKidsLoop]
  | t :: r, L, h0, h => by
    rw [szKidsLoop] at h ⊢
    split at h
    · omega
    · rename_i hn
      rw [if_neg hn]
      have h1 := hg t L h0 (by omega)
      have h2 := szKidsLoop_sum3 f g hf hg r (f t L) (by omega) h
      simp only [List.map_cons, List.sum_cons]
      omega
theorem szStrs_le3 (l : List ByteArray) (L : Int) (_h0 : 0 ≤ L) (h : 0 ≤ szStrs l L) : szStrs l L ≤ L - l.length := by
  have h1 := szStrs_len l L h
  rw [szStrs] at h ⊢
  split at h
  · omega
  · rename_i hn
    rw [if_neg hn]
    exact szLoop_le l _ (by omega)
theorem sum_three {α : Type} (g : α → Nat) : ∀ l : List α, (l.map (fun u => 3 + g u)).sum = 3 * l.length + (l.map g).sum
  | [] => rfl
  | t :: r => by simp only [List.map_cons, List.sum_cons, List.length_cons, sum_three g r]; omega
theorem szT_cnt : ∀ (n : Nat) (t : T n) (L : Int), 0 ≤ L → 0 ≤ szT n t L → (cntT n t : Int) ≤ 3 * (L - szT n t L)
  | 0, t, _, _, _ => Empty.elim (show Empty from t)
  | n + 1, t, L, h0, h => by
    obtain ⟨h1, h2, h3, h4, h5⟩ := szT_parts n t L h0 h
    rw [h5] at h ⊢
    have h6 := szKidsLoop_sum3 (szT n) (cntT n) (szT_le n) (szT_cnt n) t.kids _ h4 h
    have h7 : cntT (n + 1) t = t.names.length + (t.kids.map (fun u => 3 + cntT n u)).sum := rfl
    have h8 := szStrs_le3 t.names _ h1 h2
    rw [h7, sum_three]
    omega

theorem cnt_kid {n : Nat} (t : T (n + 1)) (i : Nat) (h : i < t.kids.length) : cntT n t.kids[i] ≤ cntT (n + 1) t := by
  have h1 := sum_drop (cntH n) t.kids i h
  have h2 := sum_take_le (cntH n) t.kids (i + 1)
  have h3 : cntT (n + 1) t = t.names.length + (t.kids.map (cntH n)).sum := rfl
  have h4 : cntH n t.kids[i] = 3 + cntT n t.kids[i] := rfl
  omega
theorem res_cnt {n : Nat} {t : T n} {path : List ByteArray} {B : Nat} (h : cntT n t ≤ B) : cntT (resT n t path).1.1 (resT n t path).1.2 ≤ B := by
  by_cases hok : okT n t = true
  · have e0 : resT n t path = (orZero (atT n t path), (atT n t path).isSome) := by rw [resT, if_pos hok]
    rw [e0]
    show cntT (orZero (atT n t path)).1 (orZero (atT n t path)).2 ≤ B
    cases e : atT n t path with
    | none => exact Nat.zero_le _
    | some x =>
      obtain ⟨m, u⟩ := x
      exact atT_ind (fun n t => cntT n t ≤ B) (fun _ t h i hi => Nat.le_trans (cnt_kid t i hi) h) n t path m u h e
  · have e0 : resT n t path = (zeroT, false) := by rw [resT, if_neg hok]
    rw [e0]
    exact Nat.zero_le _

/-- A tree in a box B, its memory from lo on and below hi. -/
def RepBox (m : Nat) (u : T m) (c0 c1 c2 : Value) (B lo hi : Nat) (nv kv : Value) (W : World) : Prop := Blk W B #[c0, c1, c2, nv, kv] 30 ∧ Rep W lo hi m u nv kv ∧ hi ≤ W.heap.size
def OwnBox (m : Nat) (u : T m) (c0 c1 c2 : Value) (B lo hi : Nat) (nv kv : Value) (W : World) : Prop := Blk W B #[c0, c1, c2, nv, kv] 30 ∧ Own W m lo hi u nv kv ∧ hi ≤ W.heap.size
theorem RepBox.below {m : Nat} {u : T m} {c0 c1 c2 : Value} {B lo hi : Nat} {nv kv : Value} {W W' : World} (h : RepBox m u c0 c1 c2 B lo hi nv kv W) (hb : Below W.heap.size W W') : RepBox m u c0 c1 c2 B lo hi nv kv W' :=
  ⟨h.1.below hb h.1.lt, Rep.keep hb h.2.2 _ _ _ _ h.2.1, Nat.le_trans h.2.2 hb.size⟩
theorem OwnBox.below {m : Nat} {u : T m} {c0 c1 c2 : Value} {B lo hi : Nat} {nv kv : Value} {W W' : World} (h : OwnBox m u c0 c1 c2 B lo hi nv kv W) (hb : Below W.heap.size W W') : OwnBox m u c0 c1 c2 B lo hi nv kv W' :=
  ⟨h.1.below hb h.1.lt, Own.same _ _ _ _ _ _ (sameIn_below hb h.2.2) h.2.1, Nat.le_trans h.2.2 hb.size⟩
theorem OwnBox.rep {m : Nat} {u : T m} {c0 c1 c2 : Value} {B lo hi : Nat} {nv kv : Value} {W : World} (h : OwnBox m u c0 c1 c2 B lo hi nv kv W) : RepBox m u c0 c1 c2 B lo hi nv kv W := ⟨h.1, Own.rep _ _ _ _ _ _ h.2.1, h.2.2⟩
theorem Blk.inr {w w' : World} {b lo hi : Nat} {A : Array Value} {t : TypeId} (h : Blk w b A t) (hb : InR lo hi w w') (hne : ¬ (lo ≤ b ∧ b < hi)) : Blk w' b A t := (hb.block b h.lt hne).trans h
theorem OwnBox.inr {m : Nat} {u : T m} {c0 c1 c2 : Value} {B lo hi : Nat} {nv kv : Value} {W W' : World} (h : OwnBox m u c0 c1 c2 B lo hi nv kv W) {a b : Nat} (hb : InR a b W W') (hB : ¬ (a ≤ B ∧ B < b)) (hd : hi ≤ a ∨ b ≤ lo) : OwnBox m u c0 c1 c2 B lo hi nv kv W' :=
  ⟨h.1.inr hb hB, Own.same _ _ _ _ _ _ (hb.sameIn (by omega) h.2.2) h.2.1, Nat.le_trans h.2.2 hb.size⟩

def OwnS (l : List ByteArray) (lo hi b : Nat) (v : Value) (W : World) : Prop := OwnStrs W lo hi b v l ∧ hi ≤ W.heap.size
theorem OwnS.below {l : List ByteArray} {lo hi b : Nat} {v : Value} {W W' : World} (h : OwnS l lo hi b v W) (hb : Below W.heap.size W W') : OwnS l lo hi b v W' := ⟨h.1.same (sameIn_below hb h.2), Nat.le_trans h.2 hb.size⟩
theorem OwnS.inr {l : List ByteArray} {lo hi b : Nat} {v : Value} {W W' : World} (h : OwnS l lo hi b v W) {x y : Nat} (hb : InR x y W W') (hd : hi ≤ x ∨ y ≤ lo) : OwnS l lo hi b v W' := ⟨h.1.same (hb.sameIn (by omega) h.2), Nat.le_trans h.2 hb.size⟩

end Go.Proofs.Ytnfidecbbijpfaa
