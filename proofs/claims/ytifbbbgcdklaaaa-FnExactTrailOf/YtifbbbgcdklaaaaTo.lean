/- The laws' own copies: toStringS, toTreeS, toTree make the same list or tree anew, in memory of its own, and write nothing that was there. -/
import Derived.Test.YtifbbbgcdklaaaaProg
import Derived.Test.YtifbbbgcdklaaaaSz
import Derived.Deep.OwnRows
namespace Go.Proofs.Ytifbbbgcdklaaaa
open Go.RowKit

theorem info_string : (Try.prog.info? 9).map (fun i => (i.zero, i.size, i.bytes)) = some (some (.string ⟨#[]⟩), 1, 16) := by kernel_rfl

/-- The row behind k rounds: the first k strings, the others empty. -/
def strRow (l : List ByteArray) (k : Nat) : Nat → Value := fun j => if h : j < k ∧ j < l.length then .string (l[j]'h.2) else .string ⟨#[]⟩

theorem strRow_set (l : List ByteArray) (k : Nat) (hk : k < l.length) (j : Nat) : (if j = k then .string l[k] else strRow l k j) = strRow l (k + 1) j := by
  unfold strRow
  by_cases h : j = k
  · subst h; simp [hk]
  · rw [if_neg h]
    by_cases h2 : j < k ∧ j < l.length
    · rw [dif_pos h2, dif_pos (by omega)]
    · rw [dif_neg h2, dif_neg (by omega)]

theorem strRow_at (l : List ByteArray) (k : Nat) (hk : ¬ k < l.length) (j : Nat) (hj : j < l.length) : strRow l k j = .string l[j] := by
  unfold strRow
  rw [dif_pos (by omega)]

set_option maxHeartbeats 1000000 in
theorem toStringS_any (l : List ByteArray) (v : Value) (w : World) (lo hi : Nat) (hv : StrsAt w lo hi v l) (hhi : hi ≤ w.heap.size) (hl : l.length ≤ 1048576) :
    Calls Try.prog 22 #[v] w fun e w' => ∃ v', e = .returned v' ∧ OwnStrs w' w.heap.size w'.heap.size w.heap.size v' l ∧ Below w.heap.size w w' ∧ w'.heap.size = w.heap.size + 1 := by
  obtain ⟨a, cap, rfl, _, hs, hc⟩ := hv
  have HS : Hid (∀ (i : Nat) (h : i < l.length), l[i].size ≤ maxLen) := hs
  clear hs
  have hmk := run_make_row' (P := Try.prog) 22 9 (.string ⟨#[]⟩) 16 Try.underlying22 info_string rfl .i64 .i64 l.length (by omega) (by omega)
  go_enter Try.func22, Try.ntmps22
  go_wp2
  go_loopw [4] (fun i wr => ∃ (k : Nat), k ≤ l.length ∧ i = .int .i64 k ∧ Hid (Below w.heap.size w wr) ∧ Hid (wr.heap.size = w.heap.size + 1) ∧
    Hid (wr.rowIs w.heap.size 9 l.length (strRow l k))) (fun i _ => l.length - (intOf i).toNat)
  case atStart =>
    refine ⟨0, Nat.zero_le _, rfl, (Below.refl _ _).alloc (Nat.le_refl _) _, by show _ = _; simp, ?_⟩
    exact (World.rowIs_made w (.string ⟨#[]⟩) l.length 9).congr fun j _ => by simp [strRow]
  case round =>
    obtain ⟨k, hk, rfl, HB, HZ, HR⟩ := hrel
    by_cases hlt : k < l.length
    · obtain ⟨b, o, rfl, hb1, hb2, hcell⟩ := hc (by omega)
      have hck := hcell k hlt
      rw [← HB.out.cell (p := ⟨b, _, none⟩) (by show b < w.heap.size; omega)] at hck
      have hcw := HR.out.cell hlt
      have hfw := HR.out.frozen k
      clear hc hcell hmk
      go_wp2
      go_roundw
      case rel =>
        exact ⟨k + 1, by omega, by go_num, HB.out.setCell (Nat.le_refl _) _, by show _ = _; simp [World.setCell]; exact HZ.out, (HR.out.set k _).congr fun j _ => strRow_set l k hlt j⟩
      case measure => simp [intOf]; omega
    · go_wp2
      go_ret
      refine ⟨_, rfl, ⟨⟨_, _, rfl, fun _ => rfl⟩, by unfold maxLen; omega, HS.out, fun _ => ⟨Nat.le_refl _, HR.out.lt⟩, fun i hi => ⟨?_, HR.out.frozen i⟩⟩, HB.out, HZ.out⟩
      rw [HR.out.cell hi, strRow_at l k hlt i hi]

set_option maxHeartbeats 1000000 in
theorem toStringS_cap (l : List ByteArray) (v : Value) (w : World) (lo hi : Nat) (hv : StrsAt w lo hi v l) (hhi : hi ≤ w.heap.size) (hl : l.length ≤ 1048576) :
    Calls Try.prog 22 #[v] w fun e w' => ∃ v', e = .returned v' ∧ OwnStrs w' w.heap.size w'.heap.size w.heap.size v' l ∧ Below w.heap.size w w' ∧ w'.heap.size = w.heap.size + 1 ∧ ∃ a, v' = .slice a l.length l.length := by
  obtain ⟨a, cap, rfl, _, hs, hc⟩ := hv
  have HS : Hid (∀ (i : Nat) (h : i < l.length), l[i].size ≤ maxLen) := hs
  clear hs
  have hmk := run_make_row' (P := Try.prog) 22 9 (.string ⟨#[]⟩) 16 Try.underlying22 info_string rfl .i64 .i64 l.length (by omega) (by omega)
  go_enter Try.func22, Try.ntmps22
  go_wp2
  go_loopw [4] (fun i wr => ∃ (k : Nat), k ≤ l.length ∧ i = .int .i64 k ∧ Hid (Below w.heap.size w wr) ∧ Hid (wr.heap.size = w.heap.size + 1) ∧
    Hid (wr.rowIs w.heap.size 9 l.length (strRow l k))) (fun i _ => l.length - (intOf i).toNat)
  case atStart =>
    refine ⟨0, Nat.zero_le _, rfl, (Below.refl _ _).alloc (Nat.le_refl _) _, by show _ = _; simp, ?_⟩
    exact (World.rowIs_made w (.string ⟨#[]⟩) l.length 9).congr fun j _ => by simp [strRow]
  case round =>
    obtain ⟨k, hk, rfl, HB, HZ, HR⟩ := hrel
    by_cases hlt : k < l.length
    · obtain ⟨b, o, rfl, hb1, hb2, hcell⟩ := hc (by omega)
      have hck := hcell k hlt
      rw [← HB.out.cell (p := ⟨b, _, none⟩) (by show b < w.heap.size; omega)] at hck
      have hcw := HR.out.cell hlt
      have hfw := HR.out.frozen k
      clear hc hcell hmk
      go_wp2
      go_roundw
      case rel =>
        exact ⟨k + 1, by omega, by go_num, HB.out.setCell (Nat.le_refl _) _, by show _ = _; simp [World.setCell]; exact HZ.out, (HR.out.set k _).congr fun j _ => strRow_set l k hlt j⟩
      case measure => simp [intOf]; omega
    · go_wp2
      go_ret
      refine ⟨_, rfl, ⟨⟨_, _, rfl, fun _ => rfl⟩, by unfold maxLen; omega, HS.out, fun _ => ⟨Nat.le_refl _, HR.out.lt⟩, fun i hi => ⟨?_, HR.out.frozen i⟩⟩, HB.out, HZ.out, _, rfl⟩
      rw [HR.out.cell hi, strRow_at l k hlt i hi]

/-- No list of the tree has more than 2^20 elements. -/
def Sm : (n : Nat) → T n → Prop
  | 0, _ => True
  | n + 1, t => t.names.length ≤ 1048576 ∧ t.kids.length ≤ 1048576 ∧ ∀ (i : Nat) (h : i < t.kids.length), Sm n t.kids[i]

def zeroCells : Array Value := #[.bool false, .int .i64 0, .string ⟨#[]⟩, .slice none 0 0, .slice none 0 0]
theorem info_tree : (Try.prog.info? 34).map (fun i => (i.zero, i.size, i.bytes)) = some (some (.agg zeroCells), 5, 80) := by kernel_rfl

/-- 'make([]T, n)', an element of five cells. -/
theorem run_make_five {P : Program} (t e : TypeId) (z : Array Value) (bytes : Nat) (ht : P.underlying t = some (.slice e)) (hinfo : (P.info? e).map (fun i => (i.zero, i.size, i.bytes)) = some (some (.agg z), 5, bytes))
    (kl kc : IntKind) (n : Nat) (hbytes : bytes * n ≤ 281474976710656) (h63 : n ≤ 9223372036854775807) (w : World) :
    (Instr.makeSlice t (.int kl (n : Int)) (.int kc (n : Int))).run P w = .ok (.slice (some ⟨w.heap.size, 0, none⟩) n n) (w.alloc (.cells (madeCells z (n * 5)) e)) := by
  obtain ⟨i, hi, hzz⟩ := Option.map_eq_some_iff.1 hinfo
  simp only [Prod.mk.injEq] at hzz
  obtain ⟨hz, hs, hb⟩ := hzz
  have hb' : (i.bytes : Int) * (n : Int) ≤ 281474976710656 := by
    rw [hb]
    have h : ((bytes * n : Nat) : Int) ≤ 281474976710656 := by omega
    rwa [Int.natCast_mul] at h
  have hr := run_make (P := P) w t e i (.agg z) ht hi hz kl kc n n (by omega) (Int.le_refl _) hb' (by omega)
  simp only [Int.toNat_natCast, hs] at hr
  exact hr

theorem rowIs_made_any (w : World) (z : Array Value) (n : Nat) (t : TypeId) : (w.alloc (.cells (madeCells z n) t)).rowIs w.heap.size t n (fun i => z[i % z.size]!) :=
  ⟨_, Go.Deep.blk_alloc_new _ _, size_madeCells _ _, fun i hi => by simp [madeCells, hi]⟩

def ToTreeC (n : Nat) : Prop := ∀ (t : T n) (nv kv : Value) (w : World) (lo hi : Nat), Rep w lo hi n t nv kv → hi ≤ w.heap.size → Sm n t →
  Calls Try.prog 7 #[aggT n t nv kv] w fun e w' => ∃ nv' kv', e = .returned (aggT n t nv' kv') ∧ Own w' n w.heap.size w'.heap.size t nv' kv' ∧ Below w.heap.size w w'

/-- Behind k rounds of toTreeS: block g is the row; the first k parts are laid, each in blocks of its own. -/
def MadeKids (n : Nat) (l : List (T n)) (g k : Nat) (s e : Nat → Nat) (f : Nat → Value) (w : World) : Prop :=
  w.rowIs g 34 (l.length * 5) f ∧ ∀ (i : Nat) (h : i < l.length), i < k → g < s i ∧ s i ≤ e i ∧ e i ≤ w.heap.size ∧ (i + 1 < k → e i ≤ s (i + 1)) ∧
    ∃ nv kv, f (i * 5) = .bool (headT n l[i]).1 ∧ f (i * 5 + 1) = .int .i64 (headT n l[i]).2.1 ∧ f (i * 5 + 2) = .string (headT n l[i]).2.2 ∧ f (i * 5 + 3) = nv ∧ f (i * 5 + 4) = kv ∧ Own w n (s i) (e i) l[i] nv kv

/-- Five cells of a block written, one behind the other. -/
abbrev set5 (w : World) (g o : Nat) (v0 v1 v2 v3 v4 : Value) : World :=
  ((((w.setCell ⟨g, o, none⟩ v0).setCell ⟨g, o + 1, none⟩ v1).setCell ⟨g, o + 2, none⟩ v2).setCell ⟨g, o + 3, none⟩ v3).setCell ⟨g, o + 4, none⟩ v4

theorem set5_row {w : World} {g : Nat} {t : TypeId} {n : Nat} {f : Nat → Value} (h : w.rowIs g t n f) (o : Nat) (v0 v1 v2 v3 v4 : Value) :
    (set5 w g o v0 v1 v2 v3 v4).rowIs g t n (fun j => if j = o + 4 then v4 else if j = o + 3 then v3 else if j = o + 2 then v2 else if j = o + 1 then v1 else if j = o then v0 else f j) :=
  ((((h.set o v0).set (o + 1) v1).set (o + 2) v2).set (o + 3) v3).set (o + 4) v4

theorem set5_other (w : World) (g o : Nat) (v0 v1 v2 v3 v4 : Value) (k : Nat) (hk : k ≠ g) : (set5 w g o v0 v1 v2 v3 v4).heap[k]? = w.heap[k]? := by
  unfold set5
  rw [Below.heap_setCell _ _ _ _ hk, Below.heap_setCell _ _ _ _ hk, Below.heap_setCell _ _ _ _ hk, Below.heap_setCell _ _ _ _ hk, Below.heap_setCell _ _ _ _ hk]

theorem set5_size (w : World) (g o : Nat) (v0 v1 v2 v3 v4 : Value) : (set5 w g o v0 v1 v2 v3 v4).heap.size = w.heap.size := by
  simp [set5, World.setCell]

theorem set5_below {B : Nat} {w0 w : World} (h : Below B w0 w) {g : Nat} (hg : B ≤ g) (o : Nat) (v0 v1 v2 v3 v4 : Value) : Below B w0 (set5 w g o v0 v1 v2 v3 v4) :=
  ((((h.setCell (p := ⟨g, o, none⟩) hg v0).setCell (p := ⟨g, o + 1, none⟩) hg v1).setCell (p := ⟨g, o + 2, none⟩) hg v2).setCell (p := ⟨g, o + 3, none⟩) hg v3).setCell (p := ⟨g, o + 4, none⟩) hg v4

theorem MadeKids.step {n : Nat} {l : List (T n)} {g k : Nat} {s e : Nat → Nat} {f : Nat → Value} {wr w1 : World} (h : MadeKids n l g k s e f wr) (hk : k < l.length) (hb : Below wr.heap.size wr w1) (hg : g < wr.heap.size)
    {nv kv : Value} (ho : Own w1 n wr.heap.size w1.heap.size l[k] nv kv) :
    MadeKids n l g (k + 1) (fun i => if i = k then wr.heap.size else s i) (fun i => if i = k then w1.heap.size else e i)
      (fun j => if j = k * 5 + 4 then kv else if j = k * 5 + 3 then nv else if j = k * 5 + 2 then .string (headT n l[k]).2.2 else if j = k * 5 + 1 then .int .i64 (headT n l[k]).2.1 else if j = k * 5 then .bool (headT n l[k]).1 else f j)
      (set5 w1 g (k * 5) (.bool (headT n l[k]).1) (.int .i64 (headT n l[k]).2.1) (.string (headT n l[k]).2.2) nv kv) := by
  obtain ⟨hrow, hkids⟩ := h
  refine ⟨set5_row (hrow.of_block (hb.block g hg)) _ _ _ _ _ _, fun i hi hik => ?_⟩
  rw [set5_size]
  have hsz := hb.size
  by_cases e1 : i = k
  · subst e1
    simp only [if_pos]
    refine ⟨hg, hsz, Nat.le_refl _, fun hh => by omega, nv, kv, ?_, ?_, ?_, ?_, ?_, Own.same n _ _ _ _ _ (fun b h1 h2 => set5_other _ _ _ _ _ _ _ _ b (by omega)) ho⟩
    · rw [if_neg (by omega), if_neg (by omega), if_neg (by omega), if_neg (by omega)]
    · rw [if_neg (by omega), if_neg (by omega), if_neg (by omega)]
    · rw [if_neg (by omega), if_neg (by omega)]
    · rw [if_neg (by omega)]
    · rfl
  · obtain ⟨g1, g2, g3, g4, nv', kv', q0, q1, q2, q3, q4, hown⟩ := hkids i hi (by omega)
    simp only [if_neg e1]
    have hO : Own w1 n (s i) (e i) l[i] nv' kv' := Own.same n _ _ _ _ _ (sameIn_below hb g3) hown
    refine ⟨g1, g2, by omega, fun hh => ?_, nv', kv', ?_, ?_, ?_, ?_, ?_, Own.same n _ _ _ _ _ (fun b h1 h2 => set5_other _ _ _ _ _ _ _ _ b (by omega)) hO⟩
    · by_cases e2 : i + 1 = k
      · rw [if_pos e2]; exact g3
      · rw [if_neg e2]; exact g4 (by omega)
    · rw [if_neg (by omega), if_neg (by omega), if_neg (by omega), if_neg (by omega), if_neg (by omega)]; exact q0
    · rw [if_neg (by omega), if_neg (by omega), if_neg (by omega), if_neg (by omega), if_neg (by omega)]; exact q1
    · rw [if_neg (by omega), if_neg (by omega), if_neg (by omega), if_neg (by omega), if_neg (by omega)]; exact q2
    · rw [if_neg (by omega), if_neg (by omega), if_neg (by omega), if_neg (by omega), if_neg (by omega)]; exact q3
    · rw [if_neg (by omega), if_neg (by omega), if_neg (by omega), if_neg (by omega), if_neg (by omega)]; exact q4

theorem MadeKids.done {n : Nat} {l : List (T n)} {g k B : Nat} {s e : Nat → Nat} {f : Nat → Value} {w : World} (h : MadeKids n l g k s e f w) (hk : ¬ k < l.length) (hl : l.length ≤ maxLen) (cap : Nat) (hB : B ≤ g) :
    OwnKids (Own w n) (headT n) w B w.heap.size g s e (.slice (some ⟨g, 0, none⟩) l.length cap) l := by
  obtain ⟨hrow, hkids⟩ := h
  refine ⟨⟨_, _, rfl, fun _ => rfl⟩, hl, fun _ => ⟨hB, hrow.lt⟩, fun i hi => ?_, fun i hi => ?_⟩
  · obtain ⟨g1, g2, g3, g4, _⟩ := hkids i hi (by omega)
    exact ⟨by omega, g2, g3, fun hh => g4 (by omega), by omega⟩
  · obtain ⟨_, _, _, _, nv', kv', q0, q1, q2, q3, q4, hown⟩ := hkids i hi (by omega)
    refine ⟨nv', kv', ?_, ?_, ?_, ?_, ?_, fun j hj => hrow.frozen _, hown⟩
    · rw [hrow.cell (by omega), q0]
    · rw [hrow.cell (by omega), q1]
    · rw [hrow.cell (by omega), q2]
    · rw [hrow.cell (by omega), q3]
    · rw [hrow.cell (by omega), q4]

set_option maxHeartbeats 1000000 in
theorem toTreeS_any (n : Nat) (ih : ToTreeC n) (l : List (T n)) (v : Value) (w : World) (lo hi : Nat) (hv : KidsAt (Rep w lo hi n) (headT n) w lo hi v l) (hhi : hi ≤ w.heap.size) (hl : l.length ≤ 1048576)
    (hsm : ∀ (i : Nat) (h : i < l.length), Sm n l[i]) :
    Calls Try.prog 23 #[v] w fun e w' => ∃ v' s e', e = .returned v' ∧ OwnKids (Own w' n) (headT n) w' w.heap.size w'.heap.size w.heap.size s e' v' l ∧ (∀ i, i < l.length → w.heap.size < s i) ∧ Below w.heap.size w w' := by
  obtain ⟨a, cap, rfl, _, hc⟩ := hv
  have HI : Hid (ToTreeC n) := ih
  have HSm : Hid (∀ (i : Nat) (h : i < l.length), Sm n l[i]) := hsm
  clear ih hsm
  have hmk := run_make_five (P := Try.prog) 32 34 zeroCells 80 Try.underlying32 info_tree .i64 .i64 l.length (by omega) (by omega)
  go_enter Try.func23, Try.ntmps23
  go_wp2
  go_loopw [4] (fun i wr => ∃ (k : Nat) (s e : Nat → Nat) (f : Nat → Value), k ≤ l.length ∧ i = .int .i64 k ∧ Hid (Below w.heap.size w wr) ∧ Hid (MadeKids n l w.heap.size k s e f wr)) (fun i _ => l.length - (intOf i).toNat)
  case atStart =>
    refine ⟨0, fun _ => 0, fun _ => 0, _, Nat.zero_le _, rfl, (Below.refl _ _).alloc (Nat.le_refl _) _, rowIs_made_any w zeroCells (l.length * 5) 34, fun i _ h => by omega⟩
  case round =>
    obtain ⟨k, s, e, f, hk, rfl, HB, HM⟩ := hrel
    by_cases hlt : k < l.length
    · obtain ⟨b, o, rfl, hb1, hb2, hcell⟩ := hc (by omega)
      obtain ⟨nv, kv, c0, c1, c2, c3, c4, hr⟩ := hcell k hlt
      have HR : Hid (Rep wr lo hi n l[k] nv kv) := Rep.keep HB.out hhi n _ _ _ hr
      have hz : hi ≤ wr.heap.size := Nat.le_trans hhi HB.out.size
      rw [← HB.out.cell (p := ⟨b, _, none⟩) (by show b < w.heap.size; omega)] at c0 c1 c2 c3 c4
      clear hc hcell hr hmk
      go_wp2_with fail
      refine (HI.out l[k] nv kv wr lo hi HR.out hz (HSm.out k hlt)).mono ?_
      rintro e1 w1 ⟨nv', kv', rfl, hO, hB1⟩
      have HO : Hid (Own w1 n wr.heap.size w1.heap.size l[k] nv' kv') := hO
      obtain ⟨xa, xm, xc, ya, ym, yc, rfl, rfl⟩ := (Own.rep _ _ _ _ _ _ hO).slices
      have HB1 : Hid (Below wr.heap.size wr w1) := hB1
      clear hO hB1
      have HG : Hid (w.heap.size < wr.heap.size) := HM.out.1.lt
      have hcw : ∀ j, j < 5 → w1.cell? ⟨w.heap.size, k * 5 + j, none⟩ = some (f (k * 5 + j)) := fun j hj => by
        rw [HB1.out.cell (p := ⟨w.heap.size, _, none⟩) HG.out]; exact HM.out.1.cell (by omega)
      have hfw : ∀ j, w1.frozen? ⟨w.heap.size, k * 5 + j, none⟩ = false := fun j => by
        rw [HB1.out.frozen (p := ⟨w.heap.size, _, none⟩) HG.out]; exact HM.out.1.frozen _
      have d0 := hcw 0 (by omega)
      have d1 := hcw 1 (by omega)
      have d2 := hcw 2 (by omega)
      have d3 := hcw 3 (by omega)
      have d4 := hcw 4 (by omega)
      have f0 := hfw 0
      have f1 := hfw 1
      have f2 := hfw 2
      have f3 := hfw 3
      have f4 := hfw 4
      simp only [Nat.add_zero] at d0 f0
      clear hcw hfw
      go_wp2_with fail
      go_roundw
      case rel => exact ⟨k + 1, _, _, _, by omega, by go_num, set5_below (HB.out.trans (HB1.out.mono HB.out.size)) (Nat.le_refl _) _ _ _ _ _ _, HM.out.step hlt HB1.out HG.out HO.out⟩
      case measure => simp [intOf]; omega
    · go_wp2
      go_ret
      exact ⟨_, _, _, rfl, HM.out.done hlt (by unfold maxLen; omega) _ (Nat.le_refl _), fun i hi => (HM.out.2 i hi (by omega)).1, HB.out⟩

set_option maxHeartbeats 1000000 in
theorem toTree_succ (n : Nat) (ih : ToTreeC n) : ToTreeC (n + 1) := by
  intro t nv kv w lo hi hrep hhi hsm
  obtain ⟨hd, hm, hN, hK⟩ := hrep
  obtain ⟨h1, h2, h3⟩ := hsm
  obtain ⟨dir, mode, data, names, kids⟩ := t
  have hN : StrsAt w lo hi nv names := hN
  have hK : KidsAt (Rep w lo hi n) (headT n) w lo hi kv kids := hK
  have h1 : names.length ≤ 1048576 := h1
  have h2 : kids.length ≤ 1048576 := h2
  show Calls Try.prog 7 #[.agg #[.bool dir, .int .i64 mode, .string data, nv, kv]] w _
  have HI : Hid (ToTreeC n) := ih
  have HN : Hid (StrsAt w lo hi nv names) := hN
  have HK : Hid (KidsAt (Rep w lo hi n) (headT n) w lo hi kv kids) := hK
  have HSm : Hid (∀ (i : Nat) (h : i < kids.length), Sm n kids[i]) := h3
  have HD : Hid (data.size ≤ maxLen ∧ (Lit.int .i64 mode).wf = true) := ⟨hd, hm⟩
  clear ih hN hK h3 hd hm
  go_enter Try.func7, Try.ntmps7
  go_wp2_with fail
  have HA : Hid (∀ o1 o2 o3, Below w.heap.size w (((w.alloc o1).alloc o2).alloc o3)) := fun o1 o2 o3 => (((Below.refl _ _).alloc (Nat.le_refl _) o1).alloc (by simp) o2).alloc (by simp; omega) o3
  generalize hW : (((w.alloc (Obj.cells #[.bool dir, .int .i64 mode, .string data, nv, kv] 25)).alloc (Obj.cells #[.bool false, .int .i64 0, .string ⟨#[]⟩, .slice none 0 0, .slice none 0 0] 34)).alloc
    (Obj.cells #[.bool dir, .int .i64 mode, .string data, .slice none 0 0, .slice none 0 0] 34)) = W
  have HW : Hid (Below w.heap.size w W ∧ W.heap.size = w.heap.size + 3 ∧ Blk W w.heap.size #[.bool dir, .int .i64 mode, .string data, nv, kv] 25 ∧
      Blk W (w.heap.size + 1) #[.bool false, .int .i64 0, .string ⟨#[]⟩, .slice none 0 0, .slice none 0 0] 34 ∧ Blk W (w.heap.size + 1 + 1) #[.bool dir, .int .i64 mode, .string data, .slice none 0 0, .slice none 0 0] 34) := by
    subst hW
    refine ⟨HA.out _ _ _, by simp, ((Blk.new w _ _).alloc _).alloc _, ?_, ?_⟩
    · have := (Blk.new (w.alloc (Obj.cells #[.bool dir, .int .i64 mode, .string data, nv, kv] 25)) #[.bool false, .int .i64 0, .string ⟨#[]⟩, .slice none 0 0, .slice none 0 0] 34).alloc
        (Obj.cells #[.bool dir, .int .i64 mode, .string data, .slice none 0 0, .slice none 0 0] 34)
      simpa using this
    · have := Blk.new ((w.alloc (Obj.cells #[.bool dir, .int .i64 mode, .string data, nv, kv] 25)).alloc (Obj.cells #[.bool false, .int .i64 0, .string ⟨#[]⟩, .slice none 0 0, .slice none 0 0] 34))
        #[.bool dir, .int .i64 mode, .string data, .slice none 0 0, .slice none 0 0] 34
      simpa using this
  clear HA hW
  obtain ⟨hB0, hZ0, b0, b1, b2⟩ := HW.out
  refine (toStringS_any names nv W lo hi (HN.out.keep hB0 hhi) (by omega) h1).mono ?_
  rintro e w1 ⟨v1, rfl, hO1, hB1, hS1⟩
  have HO1 : Hid (OwnStrs w1 W.heap.size w1.heap.size W.heap.size v1 names) := hO1
  obtain ⟨⟨a1, cap1, rfl, _⟩, _⟩ := hO1
  have HB1 : Hid (Below W.heap.size W w1) := hB1
  have HS1 : Hid (w1.heap.size = W.heap.size + 1) := hS1
  have c4 : w1.cell? ⟨w.heap.size, 4, none⟩ = some kv := (b0.below hB1 (by omega)).cell 4 _ rfl
  have q2 := b2.below hB1 (by omega)
  have d3 := q2.cell 3 _ rfl
  have f3 := q2.frozen 3
  have HQ : Hid (Blk w1 (w.heap.size + 1) #[.bool false, .int .i64 0, .string ⟨#[]⟩, .slice none 0 0, .slice none 0 0] 34 ∧ Blk w1 (w.heap.size + 1 + 1) #[.bool dir, .int .i64 mode, .string data, .slice none 0 0, .slice none 0 0] 34) := ⟨b1.below hB1 (by omega), q2⟩
  have HZ0 : Hid (W.heap.size = w.heap.size + 3) := hZ0
  have HB0 : Hid (Below w.heap.size w W) := hB0
  clear hB1 hS1 b0 b1 b2 q2 hZ0 hB0 HW
  go_wp2_with fail
  generalize hW : w1.setCell ⟨w.heap.size + 1 + 1, 3, none⟩ (.slice a1 names.length cap1) = W2
  have HW : Hid (Below w.heap.size w W2 ∧ W2.heap.size = w.heap.size + 4 ∧ Blk W2 (w.heap.size + 1) #[.bool false, .int .i64 0, .string ⟨#[]⟩, .slice none 0 0, .slice none 0 0] 34 ∧
      Blk W2 (w.heap.size + 1 + 1) #[.bool dir, .int .i64 mode, .string data, .slice a1 names.length cap1, .slice none 0 0] 34 ∧ OwnStrs W2 (w.heap.size + 3) (w.heap.size + 4) (w.heap.size + 3) (.slice a1 names.length cap1) names) := by
    have e1 := HS1.out
    have e0 := HZ0.out
    subst hW
    refine ⟨(HB0.out.trans (HB1.out.mono (by omega))).setCell (p := ⟨w.heap.size + 1 + 1, 3, none⟩) (by show _ ≤ w.heap.size + 1 + 1; omega) _, by simp [World.setCell]; omega, HQ.out.1.other _ _ (by show w.heap.size + 1 ≠ w.heap.size + 1 + 1; omega), HQ.out.2.set 3 _, ?_⟩
    have ho : OwnStrs w1 (w.heap.size + 3) (w.heap.size + 4) (w.heap.size + 3) (.slice a1 names.length cap1) names := by
      have := HO1.out
      rwa [e1, e0] at this
    exact ho.same fun k h1 h2 => Below.heap_setCell _ _ _ _ (by show k ≠ w.heap.size + 1 + 1; omega)
  clear hW HQ HO1 c4 d3 f3
  obtain ⟨hB0, hZ0, b1, b2, hO1⟩ := HW.out
  refine (toTreeS_any n HI.out kids kv W2 lo hi (HK.out.keepB hB0 hhi) (by omega) h2 HSm.out).mono ?_
  rintro e w3 ⟨v3, s, e', rfl, hO3, hs3, hB3⟩
  have HO3 : Hid (OwnKids (Own w3 n) (headT n) w3 W2.heap.size w3.heap.size W2.heap.size s e' v3 kids) := hO3
  obtain ⟨⟨a3, cap3, rfl, _⟩, _⟩ := hO3
  have q1 := b1.below hB3 (by omega)
  have q2 := b2.below hB3 (by omega)
  have HF : Hid (Below w.heap.size w w3 ∧ W2.heap.size = w.heap.size + 4 ∧ OwnStrs w3 (w.heap.size + 3) (w.heap.size + 4) (w.heap.size + 3) (.slice a1 names.length cap1) names ∧ (∀ i, i < kids.length → W2.heap.size < s i) ∧ w.heap.size + 4 ≤ w3.heap.size) :=
    ⟨hB0.trans (hB3.mono (by omega)), hZ0, hO1.same (sameIn_below hB3 (by omega)), hs3, by have := hB3.size; omega⟩
  have x0 := q2.cell 0 _ rfl
  have x1 := q2.cell 1 _ rfl
  have x2 := q2.cell 2 _ rfl
  have x3 := q2.cell 3 _ rfl
  have x4 := q2.cell 4 _ rfl
  have y4 := q2.frozen 4
  have z0 := q1.cell 0 _ rfl
  have z1 := q1.cell 1 _ rfl
  have z2 := q1.cell 2 _ rfl
  have z3 := q1.cell 3 _ rfl
  have z4 := q1.cell 4 _ rfl
  have u0 := q1.frozen 0
  have u1 := q1.frozen 1
  have u2 := q1.frozen 2
  have u3 := q1.frozen 3
  have u4 := q1.frozen 4
  clear hB0 hZ0 hO1 hs3 hB3 b1 b2 q1 q2 HW HB0 HB1 HS1 HZ0
  go_wp2_with fail
  refine bodyPost_ret (v := .agg #[.bool dir, .int .i64 mode, .string data, .slice a1 names.length cap1, .slice a3 kids.length cap3]) (by simp [results, Try.results7, go_sem, z0, z1, z2, z3, z4]) rfl ⟨_, _, rfl, ?_, ?_⟩
  · obtain ⟨_, e1, hO1, hs, hz⟩ := HF.out
    have hsame : ∀ lo' hi', w.heap.size + 1 + 1 < lo' → SameIn lo' hi' w3 (set5 (w3.setCell ⟨w.heap.size + 1 + 1, 4, none⟩ (.slice a3 kids.length cap3)) (w.heap.size + 1) 0 (.bool dir) (.int .i64 mode) (.string data) (.slice a1 names.length cap1) (.slice a3 kids.length cap3)) := fun lo' hi' hh k h1 h2 => by
      rw [set5_other _ _ _ _ _ _ _ _ _ (by omega), Below.heap_setCell _ _ _ _ (by show k ≠ w.heap.size + 1 + 1; omega)]
    have hsz : (set5 (w3.setCell ⟨w.heap.size + 1 + 1, 4, none⟩ (.slice a3 kids.length cap3)) (w.heap.size + 1) 0 (.bool dir) (.int .i64 mode) (.string data) (.slice a1 names.length cap1) (.slice a3 kids.length cap3)).heap.size = w3.heap.size := by
      rw [set5_size]; simp [World.setCell]
    refine ⟨HD.out.1, HD.out.2, w.heap.size + 3, w.heap.size + 4, s, e', ?_, ?_, by omega, fun i hi => ?_⟩
    · have := hO1.same (hsame (w.heap.size + 3) (w.heap.size + 4) (by omega))
      obtain ⟨p1, p2, p3, p4, p5⟩ := this
      exact ⟨p1, p2, p3, fun h0 => ⟨by omega, by rw [hsz]; omega⟩, p5⟩
    · have h3 := HO3.out
      rw [e1] at h3
      have := h3.same (hsame (w.heap.size + 4) w3.heap.size (by omega)) (R' := Own (set5 (w3.setCell ⟨w.heap.size + 1 + 1, 4, none⟩ (.slice a3 kids.length cap3)) (w.heap.size + 1) 0 (.bool dir) (.int .i64 mode) (.string data) (.slice a1 names.length cap1) (.slice a3 kids.length cap3)) n)
        fun i hi t nv kv hr => Own.same n _ _ _ _ _ (hsame _ _ (by have := (h3.2.2.2.1 i hi).1; omega)) hr
      obtain ⟨p1, p2, p3, p4, p5⟩ := this
      refine ⟨p1, p2, fun h0 => ⟨by omega, by rw [hsz]; exact (p3 h0).2⟩, fun i hi => ?_, p5⟩
      obtain ⟨r1, r2, r3, r4, r5⟩ := p4 i hi
      exact ⟨by omega, r2, by rw [hsz]; exact r3, r4, r5⟩
    · have := hs i hi
      omega
  · obtain ⟨hb, _, _, _, hz⟩ := HF.out
    exact set5_below (hb.setCell (p := ⟨w.heap.size + 1 + 1, 4, none⟩) (by show _ ≤ w.heap.size + 1 + 1; omega) _) (by omega) 0 _ _ _ _ _

theorem toTree_any : ∀ n, ToTreeC n
  | 0 => fun t => Empty.elim (show Empty from t)
  | n + 1 => toTree_succ n (toTree_any n)

end Go.Proofs.Ytifbbbgcdklaaaa
