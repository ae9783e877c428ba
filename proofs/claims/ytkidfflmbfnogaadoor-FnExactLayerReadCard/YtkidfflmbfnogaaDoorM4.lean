/- The laws' marks: markText gives a text of a number; markStringS lays such texts over a list of strings. -/
import Derived.Test.YtkidfflmbfnogaaDoorProg
import Derived.Test.YtkidfflmbfnogaaDoorLow
import Derived.Test.YtkidfflmbfnogaaDoorLeaf
import Derived.WalkKit
import Derived.WalkSpells
import Derived.WalkLawsBesides
import Derived.Test.YtkidfflmbfnogaaDoorAsd
import Derived.Deep.RegionWith
namespace Go.Proofs.YtkidfflmbfnogaaDoor
open Go.RowKit

def digs : Nat → Nat → ByteArray → ByteArray
  | 0, _, s => s
  | f + 1, n, s => if n = 0 then s else digs f (n / 10) (⟨#[48 + UInt8.ofNat (n % 10)]⟩ ++ s)
def mtext (k : Nat) : ByteArray := ⟨#[109]⟩ ++ digs k k ⟨#[]⟩

theorem digs_zero (f : Nat) (s : ByteArray) : digs f 0 s = s := by
  cases f with
  | zero => rfl
  | succ f => rw [digs, if_pos rfl]
theorem size_one (x : UInt8) (s : ByteArray) : ((⟨#[x]⟩ : ByteArray) ++ s).size = 1 + s.size := by
  rw [ByteArray.size_append]; rfl
theorem digs_size : ∀ (f n : Nat) (s : ByteArray), (digs f n s).size ≤ s.size + n
  | 0, _, _ => Nat.le_add_right _ _
  | f + 1, n, s => by
    rw [digs]
    split
    · exact Nat.le_add_right _ _
    · have := digs_size f (n / 10) (⟨#[48 + UInt8.ofNat (n % 10)]⟩ ++ s)
      rw [size_one] at this
      omega
theorem mtext_size (k : Nat) : (mtext k).size ≤ k + 1 := by
  rw [mtext, size_one]
  have := digs_size k k ⟨#[]⟩
  have e : (⟨#[]⟩ : ByteArray).size = 0 := rfl
  omega

theorem conv_one (W : World) (m : Int) : Sem.run Tryd.prog (convert 57 9 (.slice (some ⟨W.heap.size, 0, none⟩) 1 1)) (W.alloc (.cells #[.int .u8 m] 5)) = .ok (.string ⟨#[UInt8.ofNat m.toNat]⟩) (W.alloc (.cells #[.int .u8 m] 5)) := by
  rw [run_convert_bytes_arg _ 57 5 Tryd.underlying57 Tryd.underlying5 W.heap.size 0 1 1 [m] rfl (fun i hi => by
    have : i = 0 := by omega
    subst this
    exact (show Blk (W.alloc (.cells #[.int .u8 m] 5)) W.heap.size #[.int .u8 m] 5 from Blk.new W _ _).cell 0 _ rfl) 9 Tryd.underlying9]
  rfl

set_option maxHeartbeats 1000000 in
theorem markText_any (k : Nat) (w : World) (hk0 : 0 < k) (hk : k ≤ 1073741824) :
    Calls Tryd.prog 15 #[.int .i64 k] w fun e w' => e = .returned (.string (mtext k)) ∧ Below w.heap.size w w' := by
  have hk0I : (0 : Int) < (k : Int) := by omega
  have hk0N : ¬ ((k : Int) ≤ 0) := by omega
  generalize hres : mtext k = res
  have HRes := hide hres
  clear hres
  go_enter Tryd.func15, Tryd.ntmps15
  go_wp2_with fail
  go_loopw [0, 3] (fun x s wr => ∃ (f n : Nat) (b : ByteArray), x = .int .i64 n ∧ s = .string b ∧ n ≤ f ∧ n ≤ k ∧ b.size + n ≤ 1073741824 ∧ Hid (⟨#[109]⟩ ++ digs f n b = res) ∧ Hid (Below w.heap.size w wr)) (fun x _ _ => (intOf x).toNat)
  case atStart => exact ⟨k, k, ⟨#[]⟩, rfl, rfl, Nat.le_refl _, Nat.le_refl _, by show 0 + k ≤ _; omega, HRes, Below.refl _ _⟩
  case round =>
    obtain ⟨f, n, b, rfl, rfl, hf, hnk, hbs, HD, HB⟩ := hrel
    by_cases hn : 0 < n
    · have hnI : (0 : Int) < (n : Int) := by omega
      have hcv := conv_one wr (48 + (n : Int) % 10)
      go_wp2_with fail
      go_roundw
      case rel =>
        obtain ⟨f, rfl⟩ : ∃ f', f = f' + 1 := ⟨f - 1, by omega⟩
        refine ⟨f, n / 10, _, by go_num, rfl, by omega, by omega, ?_, ?_, HB.out.alloc HB.out.size _⟩
        · rw [size_one]; omega
        · have h := HD.out
          rw [digs, if_neg (by omega)] at h
          exact h
      case measure => simp [intOf]; omega
    · have hn0 : n = 0 := by omega
      subst hn0
      have HE : Hid (⟨#[109]⟩ ++ b = res) := by have h := HD.out; rw [digs_zero] at h; exact h
      go_wp2_with fail
      go_ret
      exact ⟨by rw [← HE.out]; rfl, HB.out⟩

end Go.Proofs.YtkidfflmbfnogaaDoor

/- markStringS: a list of strings in memory of its own becomes the list of its marks. -/
namespace Go.Proofs.YtkidfflmbfnogaaDoor
open Go.RowKit

/-- Only blocks from lo on and below hi are other than they were (and new ones). -/
structure InR (lo hi : Nat) (w w' : World) : Prop where
  os : w'.os = w.os
  tape : w'.tape = w.tape
  output : w'.output = w.output
  size : w.heap.size ≤ w'.heap.size
  block : ∀ k, k < w.heap.size → ¬ (lo ≤ k ∧ k < hi) → w'.heap[k]? = w.heap[k]?
theorem InR.refl (lo hi : Nat) (w : World) : InR lo hi w w := ⟨rfl, rfl, rfl, Nat.le_refl _, fun _ _ _ => rfl⟩
theorem InR.trans {lo hi : Nat} {a b c : World} (h : InR lo hi a b) (k : InR lo hi b c) : InR lo hi a c :=
  ⟨k.os.trans h.os, k.tape.trans h.tape, k.output.trans h.output, Nat.le_trans h.size k.size, fun j h1 h2 => (k.block j (Nat.lt_of_lt_of_le h1 h.size) h2).trans (h.block j h1 h2)⟩
theorem InR.wide {lo hi lo' hi' : Nat} {a b : World} (h : InR lo hi a b) (h1 : lo' ≤ lo) (h2 : hi ≤ hi') : InR lo' hi' a b :=
  ⟨h.os, h.tape, h.output, h.size, fun j g1 g2 => h.block j g1 (by omega)⟩
theorem InR.of_below {lo hi : Nat} {b c : World} (k : Below b.heap.size b c) : InR lo hi b c := ⟨k.os, k.tape, k.output, k.size, fun j h1 _ => k.block j h1⟩
theorem InR.below {lo hi : Nat} {a b c : World} (h : InR lo hi a b) (k : Below b.heap.size b c) : InR lo hi a c := h.trans (.of_below k)
theorem InR.set {lo hi : Nat} {a w : World} (h : InR lo hi a w) {p : Addr} (hp : lo ≤ p.block ∧ p.block < hi) (u : Value) : InR lo hi a (w.setCell p u) :=
  ⟨h.os, h.tape, h.output, by simpa using h.size, fun j h1 h2 => (Below.heap_setCell _ _ _ _ (by intro e; subst e; exact h2 hp)).trans (h.block j h1 h2)⟩
theorem InR.toBelow {lo hi B : Nat} {w w' : World} (h : InR lo hi w w') (h1 : B ≤ lo) (h2 : B ≤ w.heap.size) : Below B w w' := ⟨h.os, h.tape, h.output, h.size, fun k hk => h.block k (by omega) (by omega)⟩
theorem InR.sameIn {lo hi a b : Nat} {w w' : World} (h : InR lo hi w w') (h1 : ∀ k, a ≤ k → k < b → ¬ (lo ≤ k ∧ k < hi)) (h2 : b ≤ w.heap.size) : SameIn a b w w' := fun k g1 g2 => h.block k (by omega) (h1 k g1 g2)

def markL (k : Nat) (l : List ByteArray) : List ByteArray := (List.range l.length).map (fun i => mtext (k + i))
theorem markL_length (k : Nat) (l : List ByteArray) : (markL k l).length = l.length := by simp [markL]
theorem markL_get (k : Nat) (l : List ByteArray) (i : Nat) (h : i < (markL k l).length) : (markL k l)[i] = mtext (k + i) := by simp [markL]

/-- The first j of them are marked. -/
structure MarkedS (w : World) (lo hi b : Nat) (l : List ByteArray) (k j : Nat) (wr : World) : Prop where
  aside : Aside b w wr
  inr : InR lo hi w wr
  cells : ∀ (i : Nat) (h : i < l.length), wr.cell? ⟨b, i, none⟩ = some (.string (if i < j then mtext (k + i) else l[i])) ∧ wr.frozen? ⟨b, i, none⟩ = false

theorem MarkedS.step {w : World} {lo hi b : Nat} {l : List ByteArray} {k j : Nat} {wr w1 : World} (M : MarkedS w lo hi b l k j wr) (hb : b < w.heap.size) (hlo : lo ≤ b ∧ b < hi) (hj : j < l.length) (hB : Below wr.heap.size wr w1) :
    MarkedS w lo hi b l k (j + 1) (w1.setCell ⟨b, j, none⟩ (.string (mtext (k + j)))) := by
  have hs := M.aside.size
  refine ⟨(M.aside.below hB).set (.inl rfl) _, (M.inr.below hB).set hlo _, fun i hi => ?_⟩
  have h1 : w1.cell? ⟨b, i, none⟩ = _ := (hB.cell (p := ⟨b, i, none⟩) (by show b < _; omega)).trans (M.cells i hi).1
  refine ⟨?_, ?_⟩
  · by_cases e : i = j
    · subst e
      rw [World.cell?_setCell_same' _ _ _ (by rw [h1]; rfl), if_pos (by omega)]
    · rw [World.cell?_setCell_other _ _ _ _ (by intro h; injection h with _ h2 _; omega), h1]
      by_cases e2 : i < j
      · rw [if_pos e2, if_pos (by omega)]
      · rw [if_neg e2, if_neg (by omega)]
  · rw [World.frozen?_setCell]
    exact (hB.frozen (p := ⟨b, i, none⟩) (by show b < _; omega)).trans (M.cells i hi).2

set_option maxHeartbeats 1000000 in
theorem markStringS_any (l : List ByteArray) (v : Value) (b k : Nat) (w : World) (lo hi : Nat) (ho : OwnStrs w lo hi b v l) (hhi : hi ≤ w.heap.size) (hk0 : 0 < k) (hk : k + l.length ≤ 1073741824) :
    Calls Tryd.prog 14 #[v, .int .i64 k] w fun e w' => e = .returned (.int .i64 ((k + l.length : Nat) : Int)) ∧ OwnStrs w' lo hi b v (markL k l) ∧ InR lo hi w w' ∧ Aside b w w' := by
  obtain ⟨⟨a, cap, rfl, ha⟩, hl, hsz, hblk, hcell⟩ := ho
  have HF : Hid (∀ wr, MarkedS w lo hi b l k l.length wr → OwnStrs wr lo hi b (.slice a l.length cap) (markL k l) ∧ InR lo hi w wr ∧ Aside b w wr) := fun wr M =>
    ⟨⟨⟨a, cap, by rw [markL_length], fun h => ha (by rw [markL_length] at h; exact h)⟩, by rw [markL_length]; exact hl, fun i h => by rw [markL_get]; have := mtext_size (k + i); rw [markL_length] at h; unfold maxLen; omega,
      fun h => hblk (by rw [markL_length] at h; exact h), fun i h => by rw [markL_get]; rw [markL_length] at h; have := M.cells i h; rw [if_pos h] at this; exact this⟩, M.inr, M.aside⟩
  have HS : Hid (MarkedS w lo hi b l k 0 w) := ⟨Aside.refl _ _, InR.refl _ _ _, fun i h => hcell i h⟩
  have HBk := hide hblk
  clear hsz hcell hblk
  unfold maxLen at hl
  go_enter Tryd.func14, Tryd.ntmps14
  go_wp2_with fail
  go_loopw [1, 5] (fun x i wr => ∃ (j : Nat), j ≤ l.length ∧ x = .int .i64 ((k + j : Nat) : Int) ∧ i = .int .i64 j ∧ Hid (MarkedS w lo hi b l k j wr)) (fun _ i _ => l.length - (intOf i).toNat)
  case atStart => exact ⟨0, Nat.zero_le _, rfl, rfl, HS⟩
  case round =>
    obtain ⟨j, hj, rfl, rfl, M⟩ := hrel
    by_cases hlt : j < l.length
    · have ha' := ha (by omega)
      subst ha'
      have hb := HBk.out (by omega)
      have hltI : (j : Int) < (l.length : Int) := by omega
      have hc := (M.out.cells j hlt).1
      have hf := (M.out.cells j hlt).2
      have hbs : b < wr.heap.size := by have := M.out.aside.size; omega
      go_wp2_with fail
      refine (markText_any (k + j) wr (by omega) (by omega)).mono ?_
      rintro e w1 ⟨rfl, hB1⟩
      have HB1 := hide hB1
      have hc1 := (hB1.cell (p := ⟨b, j, none⟩) hbs).trans hc
      have hf1 := (hB1.frozen (p := ⟨b, j, none⟩) hbs).trans hf
      clear hB1 hc hf
      go_wp2_with fail
      go_roundw
      case rel => exact ⟨j + 1, by omega, by go_num, by go_num, M.out.step (by omega) hb hlt HB1.out⟩
      case measure => simp [intOf]; omega
    · have e1 : j = l.length := by omega
      subst e1
      go_wp2_with fail
      go_ret
      exact ⟨rfl, HF.out _ M.out⟩

end Go.Proofs.YtkidfflmbfnogaaDoor

/- markTreeS and markTree: a tree in memory of its own becomes its marked tree. -/
namespace Go.Proofs.YtkidfflmbfnogaaDoor
open Go.RowKit

def setHead : (n : Nat) → T n → Bool → Int → ByteArray → T n
  | 0, t, _, _, _ => t
  | _ + 1, t, d, m, s => ⟨d, m, s, t.names, t.kids⟩

/-- Each of a list by its own number: the next one's is c more. -/
def markK {α : Type} (g : α → Nat → α) (c : α → Nat) : List α → Nat → List α
  | [], _ => []
  | t :: r, k => g t k :: markK g c r (k + c t)

/-- How many marks the names and kids of a part take. -/
def cntT : (n : Nat) → T n → Nat
  | 0, _ => 0
  | n + 1, t => t.names.length + (t.kids.map (fun u => 3 + cntT n u)).sum
def markT : (n : Nat) → T n → Nat → T n
  | 0, t, _ => t
  | n + 1, t, k => ⟨t.dir, t.mode, t.data, markL k t.names, markK (fun u k => setHead n (markT n u (k + 3)) (k % 3 == 0) ((k + 1 : Nat) : Int) (mtext (k + 2))) (fun u => 3 + cntT n u) t.kids (k + t.names.length)⟩
def cntH (n : Nat) (t : T n) : Nat := 3 + cntT n t
def markH (n : Nat) (t : T n) (k : Nat) : T n := setHead n (markT n t (k + 3)) (k % 3 == 0) ((k + 1 : Nat) : Int) (mtext (k + 2))
theorem markT_succ (n : Nat) (t : T (n + 1)) (k : Nat) : markT (n + 1) t k = (⟨t.dir, t.mode, t.data, markL k t.names, markK (markH n) (cntH n) t.kids (k + t.names.length)⟩ : Nd (T n)) := rfl
theorem cntT_succ (n : Nat) (t : T (n + 1)) : cntT (n + 1) t = t.names.length + (t.kids.map (cntH n)).sum := rfl

section
variable {α : Type} (g : α → Nat → α) (c : α → Nat)
theorem markK_length : ∀ (l : List α) (k : Nat), (markK g c l k).length = l.length
  | [], _ => rfl
  | _ :: r, k => by rw [markK, List.length_cons, List.length_cons, markK_length r]
theorem markK_get : ∀ (l : List α) (k i : Nat) (h : i < l.length) (h' : i < (markK g c l k).length), (markK g c l k)[i] = g l[i] (k + ((l.take i).map c).sum)
  | [], _, _, h, _ => by simp at h
  | t :: r, k, 0, _, _ => by simp [markK]
  | t :: r, k, i + 1, h, h' => by
    have h2 : i < r.length := by simpa using h
    have := markK_get r (k + c t) i h2 (by rw [markK_length]; exact h2)
    simp only [markK, List.getElem_cons_succ, List.take_succ_cons, List.map_cons, List.sum_cons]
    rw [this, Nat.add_assoc]

/-- The first j of them are marked. -/
def mixK (l : List α) (k j : Nat) : List α := (markK g c l k).take j ++ l.drop j
theorem mixK_zero (l : List α) (k : Nat) : mixK g c l k 0 = l := by simp [mixK]
theorem mixK_all (l : List α) (k : Nat) : mixK g c l k l.length = markK g c l k := by
  rw [mixK, List.drop_length, List.append_nil, List.take_of_length_le (by rw [markK_length]; exact Nat.le_refl _)]
theorem mixK_length (l : List α) (k j : Nat) : (mixK g c l k j).length = l.length := by
  rw [mixK, List.length_append, List.length_take, List.length_drop, markK_length]; omega
theorem mixK_at (l : List α) (k j : Nat) (h : j < l.length) (h' : j < (mixK g c l k j).length) : (mixK g c l k j)[j] = l[j] := by
  have hl : ((markK g c l k).take j).length = j := by rw [List.length_take, markK_length]; omega
  simp only [mixK]
  rw [List.getElem_append_right (by omega)]
  simp [hl]
theorem mixK_succ (l : List α) (k j : Nat) (h : j < l.length) : mixK g c l k (j + 1) = (mixK g c l k j).set j (g l[j] (k + ((l.take j).map c).sum)) := by
  apply List.ext_getElem
  · rw [List.length_set, mixK_length, mixK_length]
  · intro i h1 h2
    have hi : i < l.length := by rw [mixK_length] at h1; exact h1
    have hm : i < (markK g c l k).length := by rw [markK_length]; exact hi
    have hl : ((markK g c l k).take j).length = j := by rw [List.length_take, markK_length]; omega
    have hl1 : ((markK g c l k).take (j + 1)).length = j + 1 := by rw [List.length_take, markK_length]; omega
    rw [List.getElem_set]
    by_cases e : j = i
    · subst e
      rw [if_pos rfl]
      simp only [mixK]
      rw [List.getElem_append_left (by omega), List.getElem_take, markK_get g c l k j h hm]
    · rw [if_neg e]
      simp only [mixK]
      by_cases h3 : i < j
      · rw [List.getElem_append_left (by omega), List.getElem_append_left (by omega), List.getElem_take, List.getElem_take]
      · rw [List.getElem_append_right (by omega), List.getElem_append_right (by omega)]
        simp only [List.getElem_drop, hl, hl1]
        congr 1
        omega
end

/-- One kid turned to another: its three cells, and all within its own blocks. -/
theorem OwnKids.put {n : Nat} {w w' : World} {lo hi bk : Nat} {s e : Nat → Nat} {v : Value} {L : List (T n)} (h : OwnKids (Own w n) (headT n) w lo hi bk s e v L) {j : Nat} {t' : T n}
    (hoth : ∀ i, i < L.length → i ≠ j → SameIn (s i) (e i) w w') (hcel : ∀ x, x ≠ j * 5 → x ≠ j * 5 + 1 → x ≠ j * 5 + 2 → w'.cell? ⟨bk, x, none⟩ = w.cell? ⟨bk, x, none⟩) (hfro : ∀ x, w'.frozen? ⟨bk, x, none⟩ = w.frozen? ⟨bk, x, none⟩)
    (h0 : w'.cell? ⟨bk, j * 5, none⟩ = some (.bool (headT n t').1)) (h1 : w'.cell? ⟨bk, j * 5 + 1, none⟩ = some (.int .i64 (headT n t').2.1)) (h2 : w'.cell? ⟨bk, j * 5 + 2, none⟩ = some (.string (headT n t').2.2))
    {nv kv : Value} (h3 : w.cell? ⟨bk, j * 5 + 3, none⟩ = some nv) (h4 : w.cell? ⟨bk, j * 5 + 4, none⟩ = some kv) (hO : Own w' n (s j) (e j) t' nv kv) : OwnKids (Own w' n) (headT n) w' lo hi bk s e v (L.set j t') := by
  obtain ⟨⟨a, cap, hv, ha⟩, p2, p3, p4, p5⟩ := h
  have hlen : (L.set j t').length = L.length := List.length_set
  refine ⟨⟨a, cap, by rw [hlen]; exact hv, fun h => ha (by omega)⟩, by omega, fun h => p3 (by omega), fun i hi => ?_, fun i hi => ?_⟩
  · obtain ⟨q1, q2, q3, q4, q5⟩ := p4 i (by omega)
    exact ⟨q1, q2, q3, fun h => q4 (by omega), q5⟩
  · have hi' : i < L.length := by omega
    by_cases e1 : j = i
    · subst e1
      have eg : (L.set j t')[j] = t' := by simp
      rw [eg]
      obtain ⟨_, _, _, _, _, _, _, fz, _⟩ := p5 j hi'
      exact ⟨nv, kv, h0, h1, h2, by rw [hcel _ (by omega) (by omega) (by omega)]; exact h3, by rw [hcel _ (by omega) (by omega) (by omega)]; exact h4, fun x hx => by rw [hfro]; exact fz x hx, hO⟩
    · have eg : (L.set j t')[i] = L[i] := by rw [List.getElem_set, if_neg e1]
      rw [eg]
      obtain ⟨nv', kv', c0, c1, c2, c3, c4, fz, ho⟩ := p5 i hi'
      exact ⟨nv', kv', by rw [hcel _ (by omega) (by omega) (by omega)]; exact c0, by rw [hcel _ (by omega) (by omega) (by omega)]; exact c1, by rw [hcel _ (by omega) (by omega) (by omega)]; exact c2, by rw [hcel _ (by omega) (by omega) (by omega)]; exact c3, by rw [hcel _ (by omega) (by omega) (by omega)]; exact c4,
        fun x hx => by rw [hfro]; exact fz x hx, Own.same n _ _ _ _ _ (hoth i hi' (fun h => e1 h.symm)) ho⟩

theorem kids_order {s e : Nat → Nat} {m : Nat} (h : ∀ i, i < m → s i ≤ e i ∧ (i + 1 < m → e i ≤ s (i + 1))) : ∀ (d i : Nat), i + d + 1 < m → e i ≤ s (i + d + 1)
  | 0, i, hd => (h i (by omega)).2 hd
  | d + 1, i, hd => by
    have h1 := kids_order h d i (by omega)
    have h2 := h (i + d + 1) (by omega)
    have h3 := h2.2 hd
    have h4 : i + (d + 1) + 1 = i + d + 1 + 1 := by omega
    rw [h4]
    omega
theorem kids_apart {s e : Nat → Nat} {m : Nat} (h : ∀ i, i < m → s i ≤ e i ∧ (i + 1 < m → e i ≤ s (i + 1))) {i j : Nat} (hi : i < m) (hj : j < m) (hne : i ≠ j) : ∀ k, s i ≤ k → k < e i → ¬ (s j ≤ k ∧ k < e j) := by
  intro k h1 h2 ⟨h3, h4⟩
  rcases Nat.lt_or_gt_of_ne hne with hlt | hlt
  · have := kids_order h (j - i - 1) i (by omega)
    have e1 : i + (j - i - 1) + 1 = j := by omega
    rw [e1] at this
    omega
  · have := kids_order h (i - j - 1) j (by omega)
    have e1 : j + (i - j - 1) + 1 = i := by omega
    rw [e1] at this
    omega

theorem OwnKids.fine {n : Nat} {w w' : World} {lo hi bk : Nat} {s e : Nat → Nat} {v : Value} {L : List (T n)} (h : OwnKids (Own w n) (headT n) w lo hi bk s e v L) (hb : 0 < L.length → w'.heap[bk]? = w.heap[bk]?) (hk : ∀ i, i < L.length → SameIn (s i) (e i) w w') :
    OwnKids (Own w' n) (headT n) w' lo hi bk s e v L := by
  obtain ⟨p1, p2, p3, p4, p5⟩ := h
  refine ⟨p1, p2, p3, p4, fun i hi => ?_⟩
  obtain ⟨nv', kv', c0, c1, c2, c3, c4, fz, ho⟩ := p5 i hi
  have hb' := hb (by omega)
  have hc : ∀ x, w'.cell? ⟨bk, x, none⟩ = w.cell? ⟨bk, x, none⟩ := fun x => World.cell?_of_block (a := ⟨bk, x, none⟩) hb'
  exact ⟨nv', kv', by rw [hc]; exact c0, by rw [hc]; exact c1, by rw [hc]; exact c2, by rw [hc]; exact c3, by rw [hc]; exact c4, fun x hx => by rw [World.frozen?_of_block (a := ⟨bk, _, none⟩) hb']; exact fz x hx, Own.same n _ _ _ _ _ (hk i hi) ho⟩

/-- The three cells of the kid's own are marked. -/
structure Stage (bk o : Nat) (v0 v1 v2 : Value) (wr w4 : World) : Prop where
  inr : InR bk (bk + 1) wr w4
  c0 : w4.cell? ⟨bk, o, none⟩ = some v0
  c1 : w4.cell? ⟨bk, o + 1, none⟩ = some v1
  c2 : w4.cell? ⟨bk, o + 2, none⟩ = some v2
  cells : ∀ x, x ≠ o → x ≠ o + 1 → x ≠ o + 2 → w4.cell? ⟨bk, x, none⟩ = wr.cell? ⟨bk, x, none⟩
  frozen : ∀ x, w4.frozen? ⟨bk, x, none⟩ = wr.frozen? ⟨bk, x, none⟩

theorem stage_of {bk o : Nat} {v0 v1 v2 : Value} {wr w3 : World} (hlt : bk < wr.heap.size) {u0 u1 u2 : Value} (h0 : wr.cell? ⟨bk, o, none⟩ = some u0) (h1 : wr.cell? ⟨bk, o + 1, none⟩ = some u1) (h2 : wr.cell? ⟨bk, o + 2, none⟩ = some u2)
    (hB : Below ((wr.setCell ⟨bk, o, none⟩ v0).setCell ⟨bk, o + 1, none⟩ v1).heap.size ((wr.setCell ⟨bk, o, none⟩ v0).setCell ⟨bk, o + 1, none⟩ v1) w3) : Stage bk o v0 v1 v2 wr (w3.setCell ⟨bk, o + 2, none⟩ v2) := by
  have ne : ∀ x y : Nat, x ≠ y → (⟨bk, x, none⟩ : Addr) ≠ ⟨bk, y, none⟩ := fun x y h e => by injection e with _ e2 _; exact h e2
  have hsz : ((wr.setCell ⟨bk, o, none⟩ v0).setCell ⟨bk, o + 1, none⟩ v1).heap.size = wr.heap.size := by simp
  have hc : ∀ x, w3.cell? ⟨bk, x, none⟩ = ((wr.setCell ⟨bk, o, none⟩ v0).setCell ⟨bk, o + 1, none⟩ v1).cell? ⟨bk, x, none⟩ := fun x => hB.cell (p := ⟨bk, x, none⟩) (hsz.symm ▸ hlt)
  have g0 : w3.cell? ⟨bk, o, none⟩ = some v0 := by rw [hc, World.cell?_setCell_other _ _ _ _ (ne _ _ (by omega)), World.cell?_setCell_same' _ _ _ (by rw [h0]; rfl)]
  have g1 : w3.cell? ⟨bk, o + 1, none⟩ = some v1 := by rw [hc, World.cell?_setCell_same' _ _ _ (by rw [World.cell?_setCell_other _ _ _ _ (ne _ _ (by omega)), h1]; rfl)]
  have g : ∀ x, x ≠ o → x ≠ o + 1 → w3.cell? ⟨bk, x, none⟩ = wr.cell? ⟨bk, x, none⟩ := fun x a b => by rw [hc, World.cell?_setCell_other _ _ _ _ (ne _ _ (by omega)), World.cell?_setCell_other _ _ _ _ (ne _ _ (by omega))]
  have i1 : InR bk (bk + 1) wr (wr.setCell ⟨bk, o, none⟩ v0) := (InR.refl _ _ _).set (p := ⟨bk, o, none⟩) ⟨Nat.le_refl _, Nat.lt_succ_self _⟩ v0
  have i2 : InR bk (bk + 1) wr ((wr.setCell ⟨bk, o, none⟩ v0).setCell ⟨bk, o + 1, none⟩ v1) := i1.set (p := ⟨bk, o + 1, none⟩) ⟨Nat.le_refl _, Nat.lt_succ_self _⟩ v1
  have i3 : InR bk (bk + 1) wr w3 := i2.below hB
  have i4 : InR bk (bk + 1) wr (w3.setCell ⟨bk, o + 2, none⟩ v2) := i3.set (p := ⟨bk, o + 2, none⟩) ⟨Nat.le_refl _, Nat.lt_succ_self _⟩ v2
  refine ⟨i4, ?_, ?_, ?_, fun x a b c => ?_, fun x => ?_⟩
  · rw [World.cell?_setCell_other _ _ _ _ (ne _ _ (by omega))]; exact g0
  · rw [World.cell?_setCell_other _ _ _ _ (ne _ _ (by omega))]; exact g1
  · rw [World.cell?_setCell_same' _ _ _ (by rw [g _ (by omega) (by omega), h2]; rfl)]
  · rw [World.cell?_setCell_other _ _ _ _ (ne _ _ (by omega))]; exact g x a b
  · rw [World.frozen?_setCell]
    rw [hB.frozen (p := ⟨bk, x, none⟩) (hsz.symm ▸ hlt), World.frozen?_setCell, World.frozen?_setCell]

/-- What a round does to the kids. -/
def KeepK (bk m : Nat) (s e : Nat → Nat) (w w' : World) : Prop := ∀ x, x < w.heap.size → x ≠ bk → (∀ i, i < m → ¬ (s i ≤ x ∧ x < e i)) → w'.heap[x]? = w.heap[x]?

theorem wf_small {x : Nat} (h : x ≤ 1073741824) : (Lit.int .i64 (x : Int)).wf = true := by
  simp [Lit.wf, IntKind.min, IntKind.max, IntKind.signed, IntKind.bits]
  omega

theorem own_marked {n : Nat} {lo hi bn bk : Nat} {s e : Nat → Nat} {nv kv : Value} {t : T (n + 1)} {k : Nat} {w5 w6 : World} (hN : OwnStrs w5 lo hi bn nv (markL k t.names)) (hhi : hi ≤ w5.heap.size)
    (hK : OwnKids (Own w6 n) (headT n) w6 lo hi bk s e kv (markK (markH n) (cntH n) t.kids (k + t.names.length))) (hkeep : KeepK bk t.kids.length s e w5 w6) (hne : bn ≠ bk) (hsep : ∀ i, i < t.kids.length → ¬ (s i ≤ bn ∧ bn < e i)) {d : Bool} {m : Int} {da : ByteArray} (hda : da.size ≤ maxLen) (hm : (Lit.int .i64 m).wf = true) :
    Own w6 (n + 1) lo hi (setHead (n + 1) (markT (n + 1) t k) d m da) nv kv :=
  ⟨hda, hm, bn, bk, s, e, ownStrs_blk hN (fun h => hkeep bn (by have := hN.2.2.2.1 h; omega) hne hsep), hK, hne, fun i hi => hsep i (by
    have hi' : i < (markK (markH n) (cntH n) t.kids (k + t.names.length)).length := hi
    rw [markK_length] at hi'; exact hi')⟩

end Go.Proofs.YtkidfflmbfnogaaDoor

/- heldStringS, heldTreeS, heldTree: of what is marked they give the number behind the last mark. -/
namespace Go.Proofs.YtkidfflmbfnogaaDoor
open Go.RowKit

set_option maxHeartbeats 1000000 in
theorem heldStringS_any (l : List ByteArray) (v : Value) (k : Nat) (w : World) (lo hi : Nat) (hv : StrsAt w lo hi v (markL k l)) (hhi : hi ≤ w.heap.size) (hk0 : 0 < k) (hk : k + l.length ≤ 1073741824) :
    Calls Tryd.prog 16 #[v, .int .i64 k] w fun e w' => e = .returned (.int .i64 ((k + l.length : Nat) : Int)) ∧ Below w.heap.size w w' := by
  obtain ⟨a, cap, rfl, hl, _, hc⟩ := hv
  rw [markL_length] at hl ⊢
  unfold maxLen at hl
  have HC : Hid (0 < l.length → ∃ b o, a = some ⟨b, o, none⟩ ∧ lo ≤ b ∧ b < hi ∧ ∀ (i : Nat), i < l.length → w.cell? ⟨b, o + i, none⟩ = some (.string (mtext (k + i)))) := fun h => by
    obtain ⟨b, o, h1, h2, h3, h4⟩ := hc (by rw [markL_length]; exact h)
    exact ⟨b, o, h1, h2, h3, fun i hi => by have := h4 i (by rw [markL_length]; exact hi); rw [markL_get] at this; exact this⟩
  clear hc
  go_enter Tryd.func16, Tryd.ntmps16
  go_wp2_with fail
  go_loopw [1, 5] (fun x i wr => ∃ (j kj : Nat), j ≤ l.length ∧ x = .int .i64 (kj : Int) ∧ i = .int .i64 j ∧ Hid (kj = k + j) ∧ Hid (Below w.heap.size w wr)) (fun _ i _ => l.length - (intOf i).toNat)
  case atStart => exact ⟨0, k, Nat.zero_le _, rfl, rfl, rfl, Below.refl _ _⟩
  case round =>
    obtain ⟨j, kj, hj, rfl, rfl, HKj, HB⟩ := hrel
    by_cases hlt : j < l.length
    · obtain ⟨b, o, rfl, hb1, hb2, hcell⟩ := HC.out (by omega)
      have hck := hcell j hlt
      rw [← HKj.out, ← HB.out.cell (p := ⟨b, o + j, none⟩) (by show b < w.heap.size; omega)] at hck
      have hltI : (j : Int) < (l.length : Int) := by omega
      have HMT : Hid (∀ W, Below w.heap.size w W → Calls Tryd.prog 15 #[.int .i64 (kj : Int)] W fun e' w' => e' = .returned (.string (mtext kj)) ∧ Below w.heap.size w w') := fun W hW => (markText_any kj W (by have := HKj.out; omega) (by have := HKj.out; omega)).mono fun e' w' ⟨h1, h2⟩ => ⟨h1, hW.trans (h2.mono hW.size)⟩
      have HCk : Hid (∀ W, Below w.heap.size w W → W.cell? ⟨b, o + j, none⟩ = some (.string (mtext kj))) := fun W hW => by
        rw [hW.cell (p := ⟨b, o + j, none⟩) (by show b < w.heap.size; omega), HKj.out]; exact hcell j hlt
      have hkjb : kj ≤ 1073741824 := by have := HKj.out; omega
      clear hcell
      go_wp2_with fail
      go_region_with (go_at_call 15; refine (HMT.out _ (by first | exact HB.out.drew | exact HB.out)).mono ?_; rintro e1 w1 ⟨rfl, hB1⟩; have HB1 := hide hB1; have hck1 := HCk.out w1 hB1; clear hB1)
      all_goals
        go_wp2_with fail
        go_roundw
        case rel => exact ⟨j + 1, kj + 1, by omega, by go_num, by go_num, (by show kj + 1 = _; have := HKj.out; omega), HB1⟩
        case measure => simp [intOf]; omega
    · have e1 : j = l.length := by omega
      subst e1
      have hkj := HKj.out
      subst hkj
      go_wp2_with fail
      go_ret
      exact ⟨rfl, HB.out⟩


end Go.Proofs.YtkidfflmbfnogaaDoor
