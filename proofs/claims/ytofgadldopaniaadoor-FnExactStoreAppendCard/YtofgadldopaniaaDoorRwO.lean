/- Lists of raw writes in memory of their own: gathered by append; their marks, and what they hold. -/
import Derived.Test.YtofgadldopaniaaDoorRw
import Derived.Test.YtofgadldopaniaaDoorMarkT
import Derived.Test.YtofgadldopaniaaDoorHeld
namespace Go.Proofs.YtofgadldopaniaaDoor
open Go.RowKit

/-- A slice of these writes in block b, from its beginning on, that may be written. -/
def OwRws (w : World) (lo hi b : Nat) (v : Value) (l : List Rw) : Prop :=
  (∃ a cap, v = .slice a l.length cap ∧ (0 < l.length → a = some ⟨b, 0, none⟩)) ∧ l.length ≤ maxLen ∧ (∀ (i : Nat) (h : i < l.length), l[i].data.size ≤ maxLen) ∧ (0 < l.length → lo ≤ b ∧ b < hi) ∧
    ∀ (i : Nat) (h : i < l.length), w.cell? ⟨b, i * 2, none⟩ = some (.int .i64 l[i].pos) ∧ w.cell? ⟨b, i * 2 + 1, none⟩ = some (.string l[i].data) ∧ w.frozen? ⟨b, i * 2, none⟩ = false ∧ w.frozen? ⟨b, i * 2 + 1, none⟩ = false
theorem OwRws.rws {w : World} {lo hi b : Nat} {v : Value} {l : List Rw} (h : OwRws w lo hi b v l) : RwsAt w lo hi v l := by
  obtain ⟨⟨a, cap, hv, ha⟩, h2, h3, h4, h5⟩ := h
  refine ⟨a, cap, hv, h2, h3, fun h0 => ⟨b, 0, ha h0, (h4 h0).1, (h4 h0).2, fun i hi => ?_⟩⟩
  simp only [Nat.zero_add]
  exact ⟨(h5 i hi).1, (h5 i hi).2.1⟩
theorem OwRws.same {w w' : World} {lo hi b : Nat} {v : Value} {l : List Rw} (h : OwRws w lo hi b v l) (hs : SameIn lo hi w w') : OwRws w' lo hi b v l := by
  obtain ⟨h1, h2, h3, h4, h5⟩ := h
  refine ⟨h1, h2, h3, h4, fun i hi => ?_⟩
  have hb := h4 (by omega)
  rw [hs.cell (p := ⟨b, i * 2, none⟩) hb.1 hb.2, hs.frozen (p := ⟨b, i * 2, none⟩) hb.1 hb.2, hs.cell (p := ⟨b, i * 2 + 1, none⟩) hb.1 hb.2, hs.frozen (p := ⟨b, i * 2 + 1, none⟩) hb.1 hb.2]
  exact h5 i hi
theorem OwRws.wide {w : World} {lo hi lo' hi' b : Nat} {v : Value} {l : List Rw} (h : OwRws w lo hi b v l) (h1 : lo' ≤ lo) (h2 : hi ≤ hi') : OwRws w lo' hi' b v l := ⟨h.1, h.2.1, h.2.2.1, fun h0 => by have := h.2.2.2.1 h0; omega, h.2.2.2.2⟩

/-- The writes' cells, one behind the other. -/
def rawC (l : List Rw) : List Value := l.flatMap fun r => [.int .i64 r.pos, .string r.data]
theorem rawC_snoc (l : List Rw) (r : Rw) : rawC (l ++ [r]) = rawC l ++ [.int .i64 r.pos, .string r.data] := by simp [rawC]
theorem rawC_length : ∀ (l : List Rw), (rawC l).length = l.length * 2
  | [] => rfl
  | r :: l => by rw [rawC, List.flatMap_cons, List.length_append, ← rawC, rawC_length l]; simp; omega
theorem rawC_at : ∀ (l : List Rw) (i : Nat) (h : i < l.length), (rawC l)[i * 2]? = some (.int .i64 l[i].pos) ∧ (rawC l)[i * 2 + 1]? = some (.string l[i].data)
  | [], i, h => by simp at h
  | r :: l, 0, h => by simp [rawC]
  | r :: l, i + 1, h => by
    have e : rawC (r :: l) = [.int .i64 r.pos, .string r.data] ++ rawC l := by simp [rawC]
    have := rawC_at l i (by simpa using h)
    rw [e, List.getElem?_append_right (by simp; omega), List.getElem?_append_right (by simp; omega)]
    have e1 : (i + 1) * 2 - 2 = i * 2 := by omega
    have e2 : (i + 1) * 2 + 1 - 2 = i * 2 + 1 := by omega
    simp only [List.length_cons, List.length_nil, Nat.reduceAdd, List.getElem_cons_succ]
    rw [e1, e2]
    exact this
theorem owRws_row {w : World} {base : Nat} {v : Value} {l : List Rw} (h : w.ownsRow base 42 2 v l.length (rawC l)) (hs : ∀ (i : Nat) (h : i < l.length), l[i].data.size ≤ maxLen) : ∃ b, OwRws w base w.heap.size b v l := by
  rcases h.2 with ⟨e1, e2⟩ | ⟨g, cap, cur, e1, e2, e3, e4, e5, e6, e7⟩
  · exact ⟨0, ⟨none, 0, by rw [e1, e2], fun h0 => by omega⟩, by omega, hs, fun h0 => by omega, fun i hi => by omega⟩
  · have hb : Blk w g cur 42 := e3
    refine ⟨g, ⟨_, cap, e1, fun _ => rfl⟩, by omega, hs, fun _ => ⟨e2, hb.lt⟩, fun i hi => ?_⟩
    have cl : ∀ j u, (rawC l)[j]? = some u → w.cell? ⟨g, j, none⟩ = some u := fun j u hu => by
      refine hb.cell j u ?_
      rw [← e7] at hu
      rw [← Array.getElem?_toList]
      by_cases hj : j < l.length * 2
      · rwa [List.getElem?_take_of_lt hj] at hu
      · rw [List.getElem?_eq_none (by rw [List.length_take]; omega)] at hu; cases hu
    obtain ⟨x0, x1⟩ := rawC_at l i hi
    exact ⟨cl _ _ x0, cl _ _ x1, hb.frozen _, hb.frozen _⟩

/-! ### marks -/
def gR (_ : Rw) (k : Nat) : Rw := ⟨(k : Int), mtext (k + 1)⟩
def cR (_ : Rw) : Nat := 2
theorem sum_cR : ∀ (l : List Rw), (l.map cR).sum = 2 * l.length
  | [] => rfl
  | r :: l => by simp [sum_cR l, cR]; omega
theorem OwRws.step {w w1 : World} {lo hi b : Nat} {v : Value} {l : List Rw} {j : Nat} (h : OwRws w lo hi b v l) (hj : j < l.length) (hhi : hi ≤ w.heap.size) (p : Int) (d : ByteArray) (hd : d.size ≤ maxLen)
    (hB : Below (w.setCell ⟨b, j * 2, none⟩ (.int .i64 p)).heap.size (w.setCell ⟨b, j * 2, none⟩ (.int .i64 p)) w1) :
    OwRws (w1.setCell ⟨b, j * 2 + 1, none⟩ (.string d)) lo hi b v (l.set j ⟨p, d⟩) := by
  obtain ⟨h1, h2, h3, h4, h5⟩ := h
  have hb := h4 (by omega)
  have hz : (w.setCell ⟨b, j * 2, none⟩ (.int .i64 p)).heap.size = w.heap.size := by simp [World.setCell]
  have hbs : b < (w.setCell ⟨b, j * 2, none⟩ (.int .i64 p)).heap.size := by omega
  refine ⟨by rw [List.length_set]; exact h1, by rw [List.length_set]; exact h2, fun i hi => ?_, fun _ => hb, fun i hi' => ?_⟩
  · rw [List.getElem_set]
    split
    · exact hd
    · exact h3 i (by rwa [List.length_set] at hi)
  · rw [List.length_set] at hi'
    obtain ⟨c0, c1, f0, f1⟩ := h5 i hi'
    have q0 : w1.cell? ⟨b, i * 2, none⟩ = (w.setCell ⟨b, j * 2, none⟩ (.int .i64 p)).cell? ⟨b, i * 2, none⟩ := hB.cell hbs
    have q1 : w1.cell? ⟨b, i * 2 + 1, none⟩ = (w.setCell ⟨b, j * 2, none⟩ (.int .i64 p)).cell? ⟨b, i * 2 + 1, none⟩ := hB.cell hbs
    refine ⟨?_, ?_, ?_, ?_⟩
    · rw [World.cell?_setCell_other _ _ _ _ (by intro h; injection h with _ h2 _; omega), q0, List.getElem_set]
      by_cases e : j = i
      · subst e
        rw [if_pos rfl, World.cell?_setCell_same' _ _ _ (by rw [c0]; rfl)]
      · rw [if_neg e, World.cell?_setCell_other _ _ _ _ (by intro h; injection h with _ h2 _; omega), c0]
    · rw [List.getElem_set]
      by_cases e : j = i
      · subst e
        have hsome : w1.cell? ⟨b, j * 2 + 1, none⟩ = some (.string l[j].data) := by rw [q1, World.cell?_setCell_other _ _ _ _ (by intro h; injection h with _ h2 _; omega), c1]
        rw [if_pos rfl, World.cell?_setCell_same' _ _ _ (by rw [hsome]; rfl)]
      · rw [if_neg e, World.cell?_setCell_other _ _ _ _ (by intro h; injection h with _ h2 _; omega), q1, World.cell?_setCell_other _ _ _ _ (by intro h; injection h with _ h2 _; omega), c1]
    · rw [World.frozen?_setCell, hB.frozen (p := ⟨b, i * 2, none⟩) hbs, World.frozen?_setCell]; exact f0
    · rw [World.frozen?_setCell, hB.frozen (p := ⟨b, i * 2 + 1, none⟩) hbs, World.frozen?_setCell]; exact f1

set_option maxHeartbeats 1000000 in
theorem markRawS_own (l : List Rw) (v : Value) (b k : Nat) (w : World) (lo hi : Nat) (ho : OwRws w lo hi b v l) (hhi : hi ≤ w.heap.size) (hk : k + 2 * l.length ≤ 1073741824) :
    Calls Tryd.prog 9 #[v, .int .i64 k] w fun e w' => e = .returned (.int .i64 ((k + 2 * l.length : Nat) : Int)) ∧ OwRws w' lo hi b v (markK gR cR l k) ∧ InR lo hi w w' := by
  obtain ⟨a, cap, rfl, ha⟩ : ∃ a cap, v = .slice a l.length cap ∧ (0 < l.length → a = some ⟨b, 0, none⟩) := ho.1
  have hl : l.length ≤ 9223372036854775807 := ho.2.1
  have HBk := hide ho.2.2.2.1
  have HO := hide ho
  clear ho
  go_enter Tryd.func9, Tryd.ntmps9
  go_wp2_with fail
  go_loopw [1, 5] (fun x i wr => ∃ (j kj : Nat), j ≤ l.length ∧ x = .int .i64 (kj : Int) ∧ i = .int .i64 j ∧ Hid (kj = k + ((l.take j).map cR).sum) ∧ Hid (OwRws wr lo hi b (.slice a l.length cap) (mixK gR cR l k j) ∧ InR lo hi w wr)) (fun _ i _ => l.length - (intOf i).toNat)
  case atStart => exact ⟨0, k, Nat.zero_le _, rfl, rfl, (by simp : k = k + ((l.take 0).map cR).sum), by rw [mixK_zero]; exact HO.out, InR.refl _ _ _⟩
  case round =>
    obtain ⟨j, kj, hj, rfl, rfl, HKj, HR⟩ := hrel
    by_cases hlt : j < l.length
    · have ha' := ha (by omega)
      subst ha'
      have hb := HBk.out (by omega)
      have hltI : (j : Int) < (l.length : Int) := by omega
      have hbs : b < wr.heap.size := by have := HR.out.2.size; omega
      have hj' : j < (mixK gR cR l k j).length := by rw [mixK_length]; exact hlt
      obtain ⟨c0, c1, f0, f1⟩ := HR.out.1.2.2.2.2 j hj'
      rw [mixK_at gR cR l k j hlt] at c0 c1
      have hkj := HKj.out
      have hsm := sum_take_le cR l j
      rw [sum_cR l] at hsm
      have hsm2 : ((l.take j).map cR).sum = 2 * j := by rw [sum_cR, List.length_take]; omega
      have hkb : kj + 2 ≤ 1073741824 := by omega
      have HN : Hid (kj + 2 = k + ((l.take (j + 1)).map cR).sum) := by
        show _ = _
        have : ((l.take (j + 1)).map cR).sum = 2 * (j + 1) := by rw [sum_cR, List.length_take]; omega
        omega
      have C1 := hide c1
      have F1 := hide f1
      clear c1 f1 hkj hsm hsm2 hj'
      go_wp2_with fail
      have hN : ((kj : Int) + 1) = ((kj + 1 : Nat) : Int) := by omega
      rw [hN]
      refine (markText_any (kj + 1) (wr.setCell ⟨b, j * 2, none⟩ (.int .i64 kj)) (by omega) (by omega)).mono ?_
      rintro e w1 ⟨rfl, hB1⟩
      have HB1 := hide hB1
      have hzz : (wr.setCell ⟨b, j * 2, none⟩ (.int .i64 (kj : Int))).heap.size = wr.heap.size := by simp [World.setCell]
      have hc1 : w1.cell? ⟨b, j * 2 + 1, none⟩ = some (.string l[j].data) := (hB1.cell (p := ⟨b, j * 2 + 1, none⟩) (by show b < _; omega)).trans ((World.cell?_setCell_other _ _ _ _ (by intro h; injection h with _ h2 _; omega)).trans C1.out)
      have hf1 : w1.frozen? ⟨b, j * 2 + 1, none⟩ = false := (hB1.frozen (p := ⟨b, j * 2 + 1, none⟩) (by show b < _; omega)).trans ((World.frozen?_setCell _ _ _ _).trans F1.out)
      have HW : Hid (OwRws (w1.setCell ⟨b, j * 2 + 1, none⟩ (.string (mtext (kj + 1)))) lo hi b (.slice (some ⟨b, 0, none⟩) l.length cap) (mixK gR cR l k (j + 1)) ∧ InR lo hi w (w1.setCell ⟨b, j * 2 + 1, none⟩ (.string (mtext (kj + 1))))) := by
        refine ⟨?_, ((HR.out.2.set hb _).below hB1).set hb _⟩
        rw [mixK_succ gR cR l k j hlt, ← HKj.out]
        exact HR.out.1.step (by rw [mixK_length]; exact hlt) (Nat.le_trans hhi HR.out.2.size) _ _ (by have := mtext_size (kj + 1); unfold maxLen; omega) hB1
      clear hB1 c0 f0 hzz hN
      go_wp2_with fail
      go_roundw
      case rel => exact ⟨j + 1, kj + 2, by omega, by go_num, by go_num, HN, HW⟩
      case measure => simp [intOf]; omega
    · have e1 : j = l.length := by omega
      subst e1
      have hkj := HKj.out
      rw [List.take_length, sum_cR] at hkj
      subst hkj
      have HE := hide HR.out.1
      go_wp2_with fail
      go_ret
      exact ⟨rfl, by have := HE.out; rwa [mixK_all] at this, HR.out.2⟩

set_option maxHeartbeats 1000000 in
theorem heldRawS_any (l : List Rw) (v : Value) (k : Nat) (w : World) (lo hi : Nat) (hO : RwsAt w lo hi v (markK gR cR l k)) (hhi : hi ≤ w.heap.size) (hk : k + 2 * l.length ≤ 1073741824) :
    Calls Tryd.prog 10 #[v, .int .i64 k] w fun e w' => e = .returned (.int .i64 ((k + 2 * l.length : Nat) : Int)) ∧ Below w.heap.size w w' := by
  obtain ⟨a, cap, rfl, hl, _, hc⟩ := hO
  rw [markK_length] at hl ⊢
  unfold maxLen at hl
  have HC : Hid (0 < l.length → ∃ b o, a = some ⟨b, o, none⟩ ∧ lo ≤ b ∧ b < hi ∧ ∀ (i : Nat) (h : i < l.length),
      w.cell? ⟨b, o + i * 2, none⟩ = some (.int .i64 ((k + 2 * i : Nat) : Int)) ∧ w.cell? ⟨b, o + i * 2 + 1, none⟩ = some (.string (mtext (k + 2 * i + 1)))) := fun h => by
    obtain ⟨b, o, h1, h2, h3, h4⟩ := hc (by rw [markK_length]; exact h)
    refine ⟨b, o, h1, h2, h3, fun i hi => ?_⟩
    have := h4 i (by rw [markK_length]; exact hi)
    rw [markK_get gR cR l k i hi] at this
    have e : ((l.take i).map cR).sum = 2 * i := by rw [sum_cR, List.length_take]; omega
    rw [e] at this
    exact this
  clear hc
  go_enter Tryd.func10, Tryd.ntmps10
  go_wp2_with fail
  go_loopw [1, 5] (fun x i wr => ∃ (j kj : Nat), j ≤ l.length ∧ x = .int .i64 (kj : Int) ∧ i = .int .i64 j ∧ kj = k + 2 * j ∧ Hid (Below w.heap.size w wr)) (fun _ i _ => l.length - (intOf i).toNat)
  case atStart => exact ⟨0, k, Nat.zero_le _, rfl, rfl, rfl, Below.refl _ _⟩
  case round =>
    obtain ⟨j, kj, hj, rfl, rfl, hkj, HB⟩ := hrel
    by_cases hlt : j < l.length
    · obtain ⟨b, o, rfl, hb1, hb2, hcell⟩ := HC.out (by omega)
      obtain ⟨c0, c1⟩ := hcell j hlt
      rw [← hkj] at c0 c1
      rw [← HB.out.cell (p := ⟨b, _, none⟩) (by show b < w.heap.size; omega)] at c0
      have HC1 : Hid (∀ W, Below w.heap.size w W → W.cell? ⟨b, o + j * 2 + 1, none⟩ = some (.string (mtext (kj + 1)))) := fun W h => (h.cell (p := ⟨b, _, none⟩) (by show b < w.heap.size; omega)).trans c1
      have hltI : (j : Int) < (l.length : Int) := by omega
      have hne : ((kj : Int) != (kj : Int)) = false := by simp
      have hkb : kj + 2 ≤ 1073741824 := by omega
      have HKj := hide hkj
      have HMT : Hid (∀ W, Below w.heap.size w W → Calls Tryd.prog 24 #[.int .i64 ((kj : Int) + 1)] W fun e' w' => e' = .returned (.string (mtext (kj + 1))) ∧ Below w.heap.size w w') := fun W hW => (markText_any (kj + 1) W (by omega) (by omega)).mono fun e' w' ⟨h1, h2⟩ => ⟨h1, hW.trans (h2.mono hW.size)⟩
      have d1 := HC1.out wr HB.out
      clear c1 hcell hkj
      go_wp2_with fail
      go_region_with (go_at_call 24; refine (HMT.out _ (by first | exact HB.out.drew | exact HB.out)).mono ?_; rintro e1 w1 ⟨rfl, hB1⟩; have HB1 := hide hB1; have d2 := HC1.out w1 hB1; clear hB1)
      all_goals
        go_wp2_with fail
        go_roundw
        case rel => exact ⟨j + 1, kj + 2, by omega, by go_num, by go_num, by have := HKj.out; omega, HB1⟩
        case measure => simp [intOf]; omega
    · have e : j = l.length := by omega
      subst e
      subst hkj
      go_wp2_with fail
      go_ret
      exact ⟨rfl, HB.out⟩

end Go.Proofs.YtofgadldopaniaaDoor
