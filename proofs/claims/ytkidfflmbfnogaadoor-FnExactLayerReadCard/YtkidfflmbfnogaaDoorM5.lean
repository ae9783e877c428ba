/- The laws' own comparison: of two lists, or trees, that are the same, eqStringS, eqTreeS, eqTree answer true. -/
import Derived.Test.YtkidfflmbfnogaaDoorProg
import Derived.Test.YtkidfflmbfnogaaDoorLow
import Derived.Deep.QuietTactic
import Derived.BigQuiet
import Derived.Deep.RegionWith
import Derived.Test.YtkidfflmbfnogaaDoorEnts
import Derived.Test.YtkidfflmbfnogaaDoorEAcc
import Derived.Test.YtkidfflmbfnogaaDoorEntL
import Derived.Test.YtkidfflmbfnogaaDoorM4
namespace Go.Proofs.YtkidfflmbfnogaaDoor
open Go.RowKit

set_option maxHeartbeats 1000000 in
theorem eqStringS_any (l : List ByteArray) (v v' : Value) (w : World) (lo hi lo' hi' : Nat) (hv : StrsAt w lo hi v l) (hv' : StrsAt w lo' hi' v' l) (hhi : hi ≤ w.heap.size) (hhi' : hi' ≤ w.heap.size) :
    Calls Tryd.prog 28 #[v, v'] w fun e w' => e = .returned (.bool true) ∧ Below w.heap.size w w' := by
  obtain ⟨a, cap, rfl, hl, _, hc⟩ := hv
  obtain ⟨a', cap', rfl, _, _, hc'⟩ := hv'
  unfold maxLen at hl
  go_enter Tryd.func28, Tryd.ntmps28
  go_wp2
  go_loopw [5] (fun i wr => ∃ (k : Nat), k ≤ l.length ∧ i = .int .i64 k ∧ Hid (Below w.heap.size w wr)) (fun i _ => l.length - (intOf i).toNat)
  case atStart => exact ⟨0, Nat.zero_le _, rfl, Below.refl _ _⟩
  case round =>
    obtain ⟨k, hk, rfl, HB⟩ := hrel
    by_cases hlt : k < l.length
    · obtain ⟨b, o, rfl, hb1, hb2, hcell⟩ := hc (by omega)
      obtain ⟨b', o', rfl, hb1', hb2', hcell'⟩ := hc' (by omega)
      have hck := hcell k hlt
      have hck' := hcell' k hlt
      rw [← HB.out.cell (p := ⟨b, _, none⟩) (by show b < w.heap.size; omega)] at hck
      rw [← HB.out.cell (p := ⟨b', _, none⟩) (by show b' < w.heap.size; omega)] at hck'
      have hd : (k : Int) < (l.length : Int) := by omega
      clear hc hc' hcell hcell'
      go_wp2
      go_quiet (fail)
      go_wp2
      go_roundw
      case rel => exact ⟨k + 1, by omega, by go_num, below_drewN HB.out _⟩
      case measure => simp [intOf]; omega
    · go_wp2
      go_ret
      exact ⟨rfl, HB.out⟩


end Go.Proofs.YtkidfflmbfnogaaDoor

/- The laws' comparison of entries: of two lists that are the same it is true. -/
namespace Go.Proofs.YtkidfflmbfnogaaDoor
open Go.RowKit

theorem BlkAt {w : World} {n : Nat} {A : Array Value} {t : TypeId} (h : w.heap.size = n) : Blk (w.alloc (.cells A t)) n A t := by rw [← h]; exact Blk.new w A t

set_option maxHeartbeats 1000000 in
theorem eqEntry_any (e : Ent) (pa pa' : Option Addr) (pc pc' : Nat) (w : World) (lo hi lo' hi' : Nat) (h : EntOk w lo hi e pa pc) (h' : EntOk w lo' hi' e pa' pc') (hhi : hi ≤ w.heap.size) (hhi' : hi' ≤ w.heap.size) :
    Calls Tryd.prog 13 #[aggE e pa pc, aggE e pa' pc'] w fun r w' => r = .returned (.bool true) ∧ Below w.heap.size w w' := by
  obtain ⟨path, what, dir, mode, data⟩ := e
  have HC : Hid (∀ W, Below w.heap.size w W → Calls Tryd.prog 28 #[.slice pa path.length pc, .slice pa' path.length pc'] W fun e w' => e = .returned (.bool true) ∧ Below W.heap.size W w') := fun W hW =>
    eqStringS_any path _ _ W lo hi lo' hi' (h.1.keep hW hhi) (h'.1.keep hW hhi') (Nat.le_trans hhi hW.size) (Nat.le_trans hhi' hW.size)
  clear h h'
  show Calls Tryd.prog 13 #[.agg #[.slice pa path.length pc, .int .i64 what, .bool dir, .int .i64 mode, .string data], .agg #[.slice pa' path.length pc', .int .i64 what, .bool dir, .int .i64 mode, .string data]] w _
  have hn1 : (what != what) = false := by simp
  have hn2 : (mode != mode) = false := by simp
  have hn3 : (dir != dir) = false := by simp
  go_enter Tryd.func13, Tryd.ntmps13
  go_wp2_with fail
  generalize hW : (w.alloc (Obj.cells #[.slice pa path.length pc, .int .i64 what, .bool dir, .int .i64 mode, .string data] 31)).alloc (Obj.cells #[.slice pa' path.length pc', .int .i64 what, .bool dir, .int .i64 mode, .string data] 31) = W
  have HW : Hid (Below w.heap.size w W ∧ Blk W w.heap.size #[.slice pa path.length pc, .int .i64 what, .bool dir, .int .i64 mode, .string data] 31 ∧ Blk W (w.heap.size + 1) #[.slice pa' path.length pc', .int .i64 what, .bool dir, .int .i64 mode, .string data] 31) := by
    subst hW
    exact ⟨((Below.refl _ _).alloc (Nat.le_refl _) _).alloc (by simp) _, (Blk.new _ _ _).alloc _, BlkAt (by simp)⟩
  clear hW
  refine (HC.out W HW.out.1).mono ?_
  rintro e w1 ⟨rfl, hB1⟩
  obtain ⟨hB0, b0, b1⟩ := HW.out
  have HB1 : Hid (Below w.heap.size w w1) := hB0.trans (hB1.mono hB0.size)
  have q0 := b0.below hB1 b0.lt
  have q1 := b1.below hB1 b1.lt
  have x1 := q0.cell 1 _ rfl
  have x2 := q0.cell 2 _ rfl
  have x3 := q0.cell 3 _ rfl
  have x4 := q0.cell 4 _ rfl
  have y1 := q1.cell 1 _ rfl
  have y2 := q1.cell 2 _ rfl
  have y3 := q1.cell 3 _ rfl
  have y4 := q1.cell 4 _ rfl
  clear hB0 b0 b1 hB1 q0 q1 HW HC
  go_wp2_with fail
  go_ret
  exact ⟨rfl, HB1.out⟩

set_option maxHeartbeats 2000000 in
theorem eqEntryS_any (l : List Ent) (v v' : Value) (w : World) (lo hi lo' hi' : Nat) (hv : EntsAt w lo hi v l) (hv' : EntsAt w lo' hi' v' l) (hhi : hi ≤ w.heap.size) (hhi' : hi' ≤ w.heap.size) :
    Calls Tryd.prog 6 #[v, v'] w fun e w' => e = .returned (.bool true) ∧ Below w.heap.size w w' := by
  obtain ⟨a, cap, rfl, hl, hc⟩ := hv
  obtain ⟨a', cap', rfl, _, hc'⟩ := hv'
  unfold maxLen at hl
  go_enter Tryd.func6, Tryd.ntmps6
  go_wp2
  go_loopw [5] (fun i wr => ∃ (k : Nat), k ≤ l.length ∧ i = .int .i64 k ∧ Hid (Below w.heap.size w wr)) (fun i _ => l.length - (intOf i).toNat)
  case atStart => exact ⟨0, Nat.zero_le _, rfl, Below.refl _ _⟩
  case round =>
    obtain ⟨k, hk, rfl, HB⟩ := hrel
    by_cases hlt : k < l.length
    · obtain ⟨b, o, rfl, hb1, hb2, hcell⟩ := hc (by omega)
      obtain ⟨b', o', rfl, hb1', hb2', hcell'⟩ := hc' (by omega)
      obtain ⟨pa, pc, c0, c1, c2, c3, c4, hr⟩ := hcell k hlt
      obtain ⟨pa', pc', d0, d1, d2, d3, d4, hr'⟩ := hcell' k hlt
      rw [← HB.out.cell (p := ⟨b, _, none⟩) (by show b < w.heap.size; omega)] at c0 c1 c2 c3 c4
      rw [← HB.out.cell (p := ⟨b', _, none⟩) (by show b' < w.heap.size; omega)] at d0 d1 d2 d3 d4
      have hd : (k : Int) < (l.length : Int) := by omega
      have HC : Hid (∀ w1, Below w.heap.size w w1 → Calls Tryd.prog 13 #[.agg #[.slice pa l[k].path.length pc, .int .i64 l[k].what, .bool l[k].dir, .int .i64 l[k].mode, .string l[k].data], .agg #[.slice pa' l[k].path.length pc', .int .i64 l[k].what, .bool l[k].dir, .int .i64 l[k].mode, .string l[k].data]] w1 fun e w' => e = .returned (.bool true) ∧ Below w.heap.size w w') := fun w1 h1 =>
        (eqEntry_any l[k] pa pa' pc pc' w1 lo hi lo' hi' (hr.keep h1 hhi) (hr'.keep h1 hhi') (Nat.le_trans hhi h1.size) (Nat.le_trans hhi' h1.size)).mono fun e w' ⟨h, h2⟩ => ⟨h, h1.trans (h2.mono h1.size)⟩
      clear hc hc' hcell hcell' hr hr'
      go_wp2
      go_region_with (go_at_call 13; refine (HC.out _ (by first | exact HB.out.drew | exact HB.out)).mono ?_; rintro e w1 ⟨rfl, hB1⟩; have HB1 : Hid (Below w.heap.size w w1) := hB1; clear hB1)
      all_goals
        go_wp2
        go_roundw
        case rel => exact ⟨k + 1, by omega, by go_num, HB1⟩
        case measure => simp [intOf]; omega
    · go_wp2
      go_ret
      exact ⟨rfl, HB.out⟩

end Go.Proofs.YtkidfflmbfnogaaDoor

/- Entries in memory of their own: each path in a block of its own; what was gathered is so. -/
namespace Go.Proofs.YtkidfflmbfnogaaDoor
open Go.RowKit

/-- A slice of these entries in block bk that may be written, the i-th path in block bs i. -/
def OwnEnts (w : World) (lo hi bk : Nat) (bs : Nat → Nat) (v : Value) (l : List Ent) : Prop :=
  (∃ a cap, v = .slice a l.length cap ∧ (0 < l.length → a = some ⟨bk, 0, none⟩)) ∧ l.length ≤ maxLen ∧ (0 < l.length → lo ≤ bk ∧ bk < hi) ∧
    ∀ (i : Nat) (h : i < l.length), (bs i ≠ bk ∧ ∀ j, j < l.length → j ≠ i → bs j ≠ bs i) ∧ ((Lit.int .i64 l[i].what).wf = true ∧ (Lit.int .i64 l[i].mode).wf = true ∧ l[i].data.size ≤ maxLen) ∧ ∃ pa pc,
      (w.cell? ⟨bk, i * 5, none⟩ = some (.slice pa l[i].path.length pc) ∧ w.cell? ⟨bk, i * 5 + 1, none⟩ = some (.int .i64 l[i].what) ∧ w.cell? ⟨bk, i * 5 + 2, none⟩ = some (.bool l[i].dir) ∧ w.cell? ⟨bk, i * 5 + 3, none⟩ = some (.int .i64 l[i].mode) ∧ w.cell? ⟨bk, i * 5 + 4, none⟩ = some (.string l[i].data)) ∧
      (∀ j, w.frozen? ⟨bk, i * 5 + j, none⟩ = false) ∧ (l[i].path.length ≤ pc ∧ pc ≤ maxLen) ∧ OwnStrs w lo hi (bs i) (.slice pa l[i].path.length pc) l[i].path
theorem OwnEnts.ents {w : World} {lo hi bk : Nat} {bs : Nat → Nat} {v : Value} {l : List Ent} (h : OwnEnts w lo hi bk bs v l) : EntsAt w lo hi v l := by
  obtain ⟨⟨a, cap, hv, ha⟩, hl, hb, hc⟩ := h
  refine ⟨a, cap, hv, hl, fun h0 => ⟨bk, 0, ha h0, (hb h0).1, (hb h0).2, fun i hi => ?_⟩⟩
  obtain ⟨_, ⟨w1, w2, w3⟩, pa, pc, ⟨c0, c1, c2, c3, c4⟩, _, hp, hO⟩ := hc i hi
  simp only [Nat.zero_add]
  exact ⟨pa, pc, c0, c1, c2, c3, c4, hO.strs, w1, w2, w3, hp.1, hp.2⟩
theorem OwnEnts.same {w w' : World} {lo hi bk : Nat} {bs : Nat → Nat} {v : Value} {l : List Ent} (h : OwnEnts w lo hi bk bs v l) (hs : SameIn lo hi w w') : OwnEnts w' lo hi bk bs v l := by
  obtain ⟨hv, hl, hb, hc⟩ := h
  refine ⟨hv, hl, hb, fun i hi => ?_⟩
  obtain ⟨hx, hw, pa, pc, ⟨c0, c1, c2, c3, c4⟩, hf, hp, hO⟩ := hc i hi
  have hbk := hb (by omega)
  have hk : w'.heap[bk]? = w.heap[bk]? := hs bk hbk.1 hbk.2
  refine ⟨hx, hw, pa, pc, ⟨?_, ?_, ?_, ?_, ?_⟩, fun j => ?_, hp, hO.same hs⟩
  · rw [World.cell?_of_block (w := w) hk]; exact c0
  · rw [World.cell?_of_block (w := w) hk]; exact c1
  · rw [World.cell?_of_block (w := w) hk]; exact c2
  · rw [World.cell?_of_block (w := w) hk]; exact c3
  · rw [World.cell?_of_block (w := w) hk]; exact c4
  · rw [World.frozen?_of_block (w := w) hk]; exact hf j
theorem OwnEnts.wide {w : World} {lo hi lo' hi' bk : Nat} {bs : Nat → Nat} {v : Value} {l : List Ent} (h : OwnEnts w lo hi bk bs v l) (h1 : lo' ≤ lo) (h2 : hi ≤ hi') : OwnEnts w lo' hi' bk bs v l := by
  obtain ⟨hv, hl, hb, hc⟩ := h
  refine ⟨hv, hl, fun h0 => ⟨by have := hb h0; omega, by have := hb h0; omega⟩, fun i hi => ?_⟩
  obtain ⟨hx, hw, pa, pc, hcs, hf, hp, hO⟩ := hc i hi
  exact ⟨hx, hw, pa, pc, hcs, hf, hp, ownStrs_wide hO h1 h2⟩

/-- What was gathered, where every entry's numbers and text fit. -/
theorem EAcc.own {W : World} {lo : Nat} {v : Value} {ms : List Ent} {xs : List Value} {bs : Nat → Nat} (h : EAcc W lo v ms xs bs) (hok : ∀ (i : Nat) (h : i < ms.length), (Lit.int .i64 ms[i].what).wf = true ∧ (Lit.int .i64 ms[i].mode).wf = true ∧ ms[i].data.size ≤ maxLen) : ∃ bk, OwnEnts W lo W.heap.size bk bs v ms := by
  have hl := h.len
  have dif : ∀ i j, i < ms.length → j < ms.length → j ≠ i → bs j ≠ bs i := fun i j hi hj hne => by
    rcases Nat.lt_or_gt_of_ne hne with e | e
    · have := h.asc i j hi e; omega
    · have := h.asc j i hj e; omega
  rcases h.row.2 with ⟨e1, e2⟩ | ⟨g, cap, cur, e1, e2, e3, e4, e5, e6, e7⟩
  · refine ⟨0, ⟨none, 0, by rw [e1, e2], fun h0 => by omega⟩, hl, fun h0 => by omega, fun i hi => by omega⟩
  · refine ⟨g, ⟨_, cap, e1, fun _ => rfl⟩, hl, fun _ => ⟨e2, (Array.getElem?_eq_some_iff.1 e3).1⟩, fun i hi => ⟨⟨fun e => (h.at_ i hi).2.2 (by rw [e1, e]; rfl), fun j hj hne => dif i j hi hj hne⟩, hok i hi, ?_⟩⟩
    obtain ⟨pa, pc, ⟨x1, x2, x3, x4, x5⟩, hO, hp⟩ := h.paths i hi
    have hb : Blk W g cur 31 := e3
    have cl : ∀ j u, xs[j]? = some u → W.cell? ⟨g, j, none⟩ = some u := fun j u hu => by
      refine hb.cell j u ?_
      rw [← e7] at hu
      rw [← Array.getElem?_toList]
      by_cases hj : j < ms.length * 5
      · rwa [List.getElem?_take_of_lt hj] at hu
      · rw [List.getElem?_eq_none (by rw [List.length_take]; omega)] at hu; cases hu
    exact ⟨pa, pc, ⟨cl _ _ x1, cl _ _ x2, cl _ _ x3, cl _ _ x4, cl _ _ x5⟩, fun j => hb.frozen _, hp, hO⟩

end Go.Proofs.YtkidfflmbfnogaaDoor

/- Marks of entries: markEntryS. -/
namespace Go.Proofs.YtkidfflmbfnogaaDoor
open Go.RowKit

/-- An entry that is marked from k on, and how many marks it takes. -/
def gE (e : Ent) (k : Nat) : Ent := ⟨markL k e.path, ((k + e.path.length : Nat) : Int), (k + e.path.length + 1) % 3 == 0, ((k + e.path.length + 2 : Nat) : Int), mtext (k + e.path.length + 3)⟩
def cE (e : Ent) : Nat := e.path.length + 4

theorem OwnEnts.step {w w2 : World} {lo hi bk : Nat} {bs : Nat → Nat} {v : Value} {l : List Ent} (h : OwnEnts w lo hi bk bs v l) {j : Nat} (hj : j < l.length) (en : Ent) (hnp : en.path.length = l[j].path.length) (hwf : (Lit.int .i64 en.what).wf = true ∧ (Lit.int .i64 en.mode).wf = true ∧ en.data.size ≤ maxLen) (hhi : hi ≤ w.heap.size)
    (hoth : ∀ q, q < w.heap.size → q ≠ bk → q ≠ bs j → w2.heap[q]? = w.heap[q]?) (hrow : ∀ q, q ≠ j * 5 + 1 → q ≠ j * 5 + 2 → q ≠ j * 5 + 3 → q ≠ j * 5 + 4 → w2.cell? ⟨bk, q, none⟩ = w.cell? ⟨bk, q, none⟩)
    (hnew : w2.cell? ⟨bk, j * 5 + 1, none⟩ = some (.int .i64 en.what) ∧ w2.cell? ⟨bk, j * 5 + 2, none⟩ = some (.bool en.dir) ∧ w2.cell? ⟨bk, j * 5 + 3, none⟩ = some (.int .i64 en.mode) ∧ w2.cell? ⟨bk, j * 5 + 4, none⟩ = some (.string en.data))
    (hfr : ∀ q, w2.frozen? ⟨bk, q, none⟩ = w.frozen? ⟨bk, q, none⟩) {pa : Option Addr} {pc : Nat} (hpv : w.cell? ⟨bk, j * 5, none⟩ = some (.slice pa l[j].path.length pc)) (hO : OwnStrs w2 lo hi (bs j) (.slice pa l[j].path.length pc) en.path) :
    OwnEnts w2 lo hi bk bs v (l.set j en) := by
  obtain ⟨hv, hl, hb, hc⟩ := h
  have hbk := hb (by omega)
  refine ⟨by rw [List.length_set]; exact hv, by rw [List.length_set]; exact hl, fun _ => hbk, fun i hi' => ?_⟩
  rw [List.length_set] at hi' ⊢
  obtain ⟨hx, hw, pa', pc', ⟨c0, c1, c2, c3, c4⟩, hf, hp, hOi⟩ := hc i hi'
  refine ⟨hx, ?_⟩
  by_cases e : i = j
  · subst e
    rw [hpv] at c0
    simp only [Option.some.injEq, Value.slice.injEq, true_and] at c0
    obtain ⟨rfl, rfl⟩ := c0
    simp only [List.getElem_set_self]
    refine ⟨hwf, pa, pc, ⟨?_, hnew.1, hnew.2.1, hnew.2.2.1, hnew.2.2.2⟩, fun q => by rw [hfr]; exact hf q, by rw [hnp]; exact hp, by rw [hnp]; exact hO⟩
    rw [hrow _ (by omega) (by omega) (by omega) (by omega), hpv, hnp]
  · simp only [List.getElem_set_ne (fun h => e h.symm)]
    have r : ∀ c, c < 5 → w2.cell? ⟨bk, i * 5 + c, none⟩ = w.cell? ⟨bk, i * 5 + c, none⟩ := fun c hc => hrow _ (by omega) (by omega) (by omega) (by omega)
    refine ⟨hw, pa', pc', ⟨?_, ?_, ?_, ?_, ?_⟩, fun q => by rw [hfr]; exact hf q, hp, ?_⟩
    · have := r 0 (by omega); rw [Nat.add_zero] at this; rw [this]; exact c0
    · rw [r 1 (by omega)]; exact c1
    · rw [r 2 (by omega)]; exact c2
    · rw [r 3 (by omega)]; exact c3
    · rw [r 4 (by omega)]; exact c4
    · refine ownStrs_blk hOi fun h0 => ?_
      have hbi : bs i < w.heap.size := by have := hOi.2.2.2.1 h0; omega
      exact hoth _ hbi hx.1 (fun e2 => hx.2 j hj (fun e3 => e e3.symm) e2.symm)

end Go.Proofs.YtkidfflmbfnogaaDoor

/- markEntryS, walked. -/
namespace Go.Proofs.YtkidfflmbfnogaaDoor
open Go.RowKit

abbrev three (w : World) (g o : Nat) (v1 v2 v3 : Value) : World := ((w.setCell ⟨g, o + 1, none⟩ v1).setCell ⟨g, o + 2, none⟩ v2).setCell ⟨g, o + 3, none⟩ v3
theorem three_size (w : World) (g o : Nat) (v1 v2 v3 : Value) : (three w g o v1 v2 v3).heap.size = w.heap.size := by simp [three, World.setCell]

theorem OwnEnts.marks {wr w1 w2 : World} {lo hi bk : Nat} {bs : Nat → Nat} {v : Value} {l : List Ent} (h : OwnEnts wr lo hi bk bs v l) {j : Nat} (hj : j < l.length) (hhi : hi ≤ wr.heap.size) (en : Ent) (hnp : en.path.length = l[j].path.length) (hwf : (Lit.int .i64 en.what).wf = true ∧ (Lit.int .i64 en.mode).wf = true ∧ en.data.size ≤ maxLen)
    (hA : Aside (bs j) wr w1) {pa : Option Addr} {pc : Nat} (hpv : wr.cell? ⟨bk, j * 5, none⟩ = some (.slice pa l[j].path.length pc)) (hO : OwnStrs w1 lo hi (bs j) (.slice pa l[j].path.length pc) en.path)
    (hB : Below w1.heap.size (three w1 bk (j * 5) (.int .i64 en.what) (.bool en.dir) (.int .i64 en.mode)) w2) :
    OwnEnts (w2.setCell ⟨bk, j * 5 + 4, none⟩ (.string en.data)) lo hi bk bs v (l.set j en) := by
  have hbk := h.2.2.1 (by omega)
  obtain ⟨hx, _, pa', pc', ⟨c0, c1, c2, c3, c4⟩, hf, _⟩ := h.2.2.2 j hj
  have hz := hA.size
  have hb1 : bk < w1.heap.size := by omega
  have hblk : w1.heap[bk]? = wr.heap[bk]? := hA.block bk (by omega) (fun e => hx.1 e.symm)
  have d : ∀ q, w1.cell? ⟨bk, q, none⟩ = wr.cell? ⟨bk, q, none⟩ := fun q => World.cell?_of_block (w := wr) hblk
  have f : ∀ q, w1.frozen? ⟨bk, q, none⟩ = wr.frozen? ⟨bk, q, none⟩ := fun q => World.frozen?_of_block (w := wr) hblk
  have b : ∀ q, w2.cell? ⟨bk, q, none⟩ = (three w1 bk (j * 5) (.int .i64 en.what) (.bool en.dir) (.int .i64 en.mode)).cell? ⟨bk, q, none⟩ := fun q => hB.cell (p := ⟨bk, q, none⟩) hb1
  have ne : ∀ a c : Nat, a ≠ c → (⟨bk, a, none⟩ : Addr) ≠ ⟨bk, c, none⟩ := fun a c hne h => by injection h with _ h2 _; exact hne h2
  refine h.step hj en hnp hwf hhi (fun q hq h1 h2 => ?_) (fun q q1 q2 q3 q4 => ?_) ⟨?_, ?_, ?_, ?_⟩ (fun q => ?_) hpv (ownStrs_blk hO fun h0 => ?_)
  · rw [Below.heap_setCell _ _ _ _ h1, hB.block q (by omega), Below.heap_setCell _ _ _ _ h1, Below.heap_setCell _ _ _ _ h1, Below.heap_setCell _ _ _ _ h1, hA.block q hq h2]
  · rw [World.cell?_setCell_other _ _ _ _ (ne _ _ q4.symm), b, World.cell?_setCell_other _ _ _ _ (ne _ _ q3.symm), World.cell?_setCell_other _ _ _ _ (ne _ _ q2.symm), World.cell?_setCell_other _ _ _ _ (ne _ _ q1.symm), d]
  · rw [World.cell?_setCell_other _ _ _ _ (ne _ _ (by omega)), b, World.cell?_setCell_other _ _ _ _ (ne _ _ (by omega)), World.cell?_setCell_other _ _ _ _ (ne _ _ (by omega)), World.cell?_setCell_same' _ _ _ (by rw [d, c1]; rfl)]
  · rw [World.cell?_setCell_other _ _ _ _ (ne _ _ (by omega)), b, World.cell?_setCell_other _ _ _ _ (ne _ _ (by omega)), World.cell?_setCell_same' _ _ _ (by rw [World.cell?_setCell_other _ _ _ _ (ne _ _ (by omega)), d, c2]; rfl)]
  · rw [World.cell?_setCell_other _ _ _ _ (ne _ _ (by omega)), b, World.cell?_setCell_same' _ _ _ (by rw [World.cell?_setCell_other _ _ _ _ (ne _ _ (by omega)), World.cell?_setCell_other _ _ _ _ (ne _ _ (by omega)), d, c3]; rfl)]
  · rw [World.cell?_setCell_same' _ _ _ (by rw [b, World.cell?_setCell_other _ _ _ _ (ne _ _ (by omega)), World.cell?_setCell_other _ _ _ _ (ne _ _ (by omega)), World.cell?_setCell_other _ _ _ _ (ne _ _ (by omega)), d, c4]; rfl)]
  · rw [World.frozen?_setCell, hB.frozen (p := ⟨bk, q, none⟩) hb1, World.frozen?_setCell, World.frozen?_setCell, World.frozen?_setCell, f]
  · have hbj : bs j < w1.heap.size := by have := hO.2.2.2.1 h0; omega
    rw [Below.heap_setCell _ _ _ _ hx.1, hB.block _ hbj, Below.heap_setCell _ _ _ _ hx.1, Below.heap_setCell _ _ _ _ hx.1, Below.heap_setCell _ _ _ _ hx.1]

theorem int_wf {n : Nat} (h : n ≤ 1073741824) : (Lit.int .i64 (n : Int)).wf = true := by
  simp [Lit.wf, IntKind.min, IntKind.max, IntKind.signed, IntKind.bits]
  omega

set_option maxHeartbeats 4000000 in
theorem markEntryS_any (l : List Ent) (v : Value) (bk k : Nat) (bs : Nat → Nat) (w : World) (lo hi : Nat) (hO : OwnEnts w lo hi bk bs v l) (hhi : hi ≤ w.heap.size) (hk0 : 0 < k) (hk : k + (l.map cE).sum ≤ 1073741824) :
    Calls Tryd.prog 7 #[v, .int .i64 k] w fun e w' => e = .returned (.int .i64 ((k + (l.map cE).sum : Nat) : Int)) ∧ OwnEnts w' lo hi bk bs v (markK gE cE l k) ∧ InR lo hi w w' := by
  obtain ⟨a, cap, rfl, ha⟩ : ∃ a cap, v = .slice a l.length cap ∧ (0 < l.length → a = some ⟨bk, 0, none⟩) := hO.1
  have hl : l.length ≤ 9223372036854775807 := hO.2.1
  have HB := hide hO.2.2.1
  have HO := hide hO
  clear hO
  generalize hres : k + (l.map cE).sum = kend
  have HEnd := hide hres
  rw [hres] at hk
  clear hres
  go_enter Tryd.func7, Tryd.ntmps7
  go_wp2_with fail
  go_loopw [1, 5] (fun x i wr => ∃ (j kj : Nat), j ≤ l.length ∧ x = .int .i64 (kj : Int) ∧ i = .int .i64 j ∧ Hid (kj = k + ((l.take j).map cE).sum) ∧ Hid (OwnEnts wr lo hi bk bs (.slice a l.length cap) (mixK gE cE l k j) ∧ InR lo hi w wr)) (fun _ i _ => l.length - (intOf i).toNat)
  case atStart => exact ⟨0, k, Nat.zero_le _, rfl, rfl, (by simp : k = k + ((l.take 0).map cE).sum), by rw [mixK_zero]; exact HO.out, InR.refl _ _ _⟩
  case round =>
    obtain ⟨j, kj, hj, rfl, rfl, HKj, HR⟩ := hrel
    by_cases hlt : j < l.length
    · have ha' := ha (by omega)
      subst ha'
      have hb := HB.out (by omega)
      have hltI : (j : Int) < (l.length : Int) := by omega
      have hj' : j < (mixK gE cE l k j).length := by rw [mixK_length]; exact hlt
      obtain ⟨hx, hw0, pa, pc, ⟨c0, c1, c2, c3, c4⟩, hf, hp0, hOj⟩ := HR.out.1.2.2.2 j hj'
      clear hw0 hp0
      rw [mixK_at gE cE l k j hlt] at c0 c1 c2 c3 c4 hOj
      have hsm1 := sum_drop cE l j hlt
      have hsm2 := sum_take_le cE l (j + 1)
      have hcn : cE l[j] = l[j].path.length + 4 := rfl
      have hkj := HKj.out
      have hend := HEnd.out
      have hbound : kj + cE l[j] ≤ 1073741824 := by omega
      have hkj0 : 0 < kj := by omega
      have HN : Hid (kj + l[j].path.length + 4 = k + ((l.take (j + 1)).map cE).sum) := by
        show _ = _
        omega
      clear hsm1 hsm2 hkj hend
      have HOj := hide hOj
      have hbs : bk < wr.heap.size := by have := HR.out.2.size; omega
      have HMS := hide (markStringS_any l[j].path _ (bs j) kj wr lo hi HOj.out (Nat.le_trans hhi HR.out.2.size) hkj0 (by omega))
      have HX := hide hx
      have HC0 : Hid (wr.cell? ⟨bk, j * 5, none⟩ = some (.slice pa l[j].path.length pc)) := c0
      have HC1 : Hid (wr.cell? ⟨bk, j * 5 + 1, none⟩ = some (.int .i64 l[j].what) ∧ wr.cell? ⟨bk, j * 5 + 2, none⟩ = some (.bool l[j].dir) ∧ wr.cell? ⟨bk, j * 5 + 3, none⟩ = some (.int .i64 l[j].mode) ∧ wr.cell? ⟨bk, j * 5 + 4, none⟩ = some (.string l[j].data) ∧ ∀ q, wr.frozen? ⟨bk, j * 5 + q, none⟩ = false) := ⟨c1, c2, c3, c4, hf⟩
      clear hOj hx c1 c2 c3 c4 hf hj'
      go_wp2_with fail
      refine HMS.out.mono ?_
      rintro e w1 ⟨rfl, hO1, hI1, hA1⟩
      have hblk : w1.heap[bk]? = wr.heap[bk]? := hA1.block bk hbs (fun e => HX.out.1 e.symm)
      have hb1 : bk < w1.heap.size := Nat.lt_of_lt_of_le hbs hA1.size
      have d1 : w1.cell? ⟨bk, j * 5 + 1, none⟩ = some (.int .i64 l[j].what) := by rw [World.cell?_of_block (w := wr) hblk]; exact HC1.out.1
      have d2 : w1.cell? ⟨bk, j * 5 + 2, none⟩ = some (.bool l[j].dir) := by rw [World.cell?_of_block (w := wr) hblk]; exact HC1.out.2.1
      have d3 : w1.cell? ⟨bk, j * 5 + 3, none⟩ = some (.int .i64 l[j].mode) := by rw [World.cell?_of_block (w := wr) hblk]; exact HC1.out.2.2.1
      have D4 : Hid (w1.cell? ⟨bk, j * 5 + 4, none⟩ = some (.string l[j].data)) := by show _ = _; rw [World.cell?_of_block (w := wr) hblk]; exact HC1.out.2.2.2.1
      have g1 : w1.frozen? ⟨bk, j * 5 + 1, none⟩ = false := by rw [World.frozen?_of_block (w := wr) hblk]; exact HC1.out.2.2.2.2 1
      have g2 : w1.frozen? ⟨bk, j * 5 + 2, none⟩ = false := by rw [World.frozen?_of_block (w := wr) hblk]; exact HC1.out.2.2.2.2 2
      have g3 : w1.frozen? ⟨bk, j * 5 + 3, none⟩ = false := by rw [World.frozen?_of_block (w := wr) hblk]; exact HC1.out.2.2.2.2 3
      have G4 : Hid (w1.frozen? ⟨bk, j * 5 + 4, none⟩ = false) := by show _ = _; rw [World.frozen?_of_block (w := wr) hblk]; exact HC1.out.2.2.2.2 4
      have HW : Hid (∀ w2, Below w1.heap.size (three w1 bk (j * 5) (.int .i64 ((kj + l[j].path.length : Nat) : Int)) (.bool ((kj + l[j].path.length + 1) % 3 == 0)) (.int .i64 ((kj + l[j].path.length + 2 : Nat) : Int))) w2 →
          OwnEnts (w2.setCell ⟨bk, j * 5 + 4, none⟩ (.string (mtext (kj + l[j].path.length + 3)))) lo hi bk bs (.slice (some ⟨bk, 0, none⟩) l.length cap) (mixK gE cE l k (j + 1)) ∧ InR lo hi w (w2.setCell ⟨bk, j * 5 + 4, none⟩ (.string (mtext (kj + l[j].path.length + 3))))) := by
        intro w2 hB2
        have hat := mixK_at gE cE l k j hlt (by rw [mixK_length]; exact hlt)
        refine ⟨?_, ?_⟩
        · rw [mixK_succ gE cE l k j hlt, ← HKj.out]
          refine OwnEnts.marks HR.out.1 (by rw [mixK_length]; exact hlt) (Nat.le_trans hhi HR.out.2.size) (gE l[j] kj) (by show (markL kj l[j].path).length = _; rw [markL_length, hat]) ⟨int_wf (by omega), int_wf (by omega), ?_⟩ hA1 (by rw [hat]; exact HC0.out) (by rw [hat]; exact hO1) hB2
          show (mtext _).size ≤ maxLen
          have := mtext_size (kj + l[j].path.length + 3)
          unfold maxLen
          omega
        · have h3 : InR lo hi w (three w1 bk (j * 5) (.int .i64 ((kj + l[j].path.length : Nat) : Int)) (.bool ((kj + l[j].path.length + 1) % 3 == 0)) (.int .i64 ((kj + l[j].path.length + 2 : Nat) : Int))) := (((HR.out.2.trans hI1).set ⟨hb.1, hb.2⟩ _).set ⟨hb.1, hb.2⟩ _).set ⟨hb.1, hb.2⟩ _
          exact (h3.below (by rw [three_size]; exact hB2)).set ⟨hb.1, hb.2⟩ _
      clear hO1 hI1 hA1 hblk HMS HR HX HC0 HC1 HOj
      obtain ⟨kk, hkk⟩ : ∃ kk, kj + l[j].path.length = kk := ⟨_, rfl⟩
      rw [hkk] at HW HN
      rw [hkk]
      have hkk2 : kk + 4 ≤ 1073741824 := by omega
      have hmod : (((kk : Int) + 1) % 3 == 0) = ((kk + 1) % 3 == 0) := by have := mod3 (kk + 1); rwa [Int.natCast_add] at this
      clear hkk hbound hcn
      go_wp2_with fail
      have e2 : (kk : Int) + 1 + 1 = ((kk + 2 : Nat) : Int) := by omega
      have e3 : ((kk + 2 : Nat) : Int) + 1 = ((kk + 3 : Nat) : Int) := by omega
      rw [e2, e3]
      refine (markText_any (kk + 3) _ (by omega) (by omega)).mono ?_
      rintro e w2 ⟨rfl, hB2⟩
      have hz3 := three_size w1 bk (j * 5) (.int .i64 (kk : Int)) (.bool ((kk + 1) % 3 == 0)) (.int .i64 ((kk + 2 : Nat) : Int))
      have hB3 : Below w1.heap.size (three w1 bk (j * 5) (.int .i64 (kk : Int)) (.bool ((kk + 1) % 3 == 0)) (.int .i64 ((kk + 2 : Nat) : Int))) w2 := hB2.mono (Nat.le_of_eq hz3.symm)
      have HF := hide (HW.out w2 hB3)
      have d4 : w2.cell? ⟨bk, j * 5 + 4, none⟩ = some (.string l[j].data) := by
        rw [hB3.cell (p := ⟨bk, j * 5 + 4, none⟩) hb1, World.cell?_setCell_other _ _ _ _ (by intro h; injection h with _ h2 _; omega), World.cell?_setCell_other _ _ _ _ (by intro h; injection h with _ h2 _; omega), World.cell?_setCell_other _ _ _ _ (by intro h; injection h with _ h2 _; omega)]
        exact D4.out
      have g4 : w2.frozen? ⟨bk, j * 5 + 4, none⟩ = false := by
        rw [hB3.frozen (p := ⟨bk, j * 5 + 4, none⟩) hb1, World.frozen?_setCell, World.frozen?_setCell, World.frozen?_setCell]
        exact G4.out
      clear hB2 hB3 hz3 d1 d2 d3 g1 g2 g3 e2 e3 HW
      obtain ⟨k3, hk3⟩ : ∃ k3, kk + 3 = k3 := ⟨_, rfl⟩
      rw [hk3] at HF
      rw [hk3]
      have HN3 : Hid (k3 + 1 = k + ((l.take (j + 1)).map cE).sum) := by show _ = _; rw [← HN.out, ← hk3]
      have hk3b : k3 + 1 ≤ 1073741824 := by omega
      clear hk3 HN hmod
      go_wp2_with fail
      go_roundw
      case rel => exact ⟨j + 1, k3 + 1, by omega, by go_num, by go_num, HN3, HF⟩
      case measure => simp [intOf]; omega
    · have HE : Hid (kj = kend ∧ OwnEnts wr lo hi bk bs (.slice a l.length cap) (markK gE cE l k)) := by
        have e : j = l.length := by omega
        have h1 := HKj.out
        have h2 := HR.out.1
        subst e
        rw [List.take_length] at h1
        rw [mixK_all] at h2
        exact ⟨by rw [h1]; exact HEnd.out, h2⟩
      go_wp2_with fail
      go_ret
      exact ⟨by rw [HE.out.1]; rfl, HE.out.2, HR.out.2⟩

end Go.Proofs.YtkidfflmbfnogaaDoor

/- heldEntryS: of entries that are marked it gives the number behind the last mark. -/
namespace Go.Proofs.YtkidfflmbfnogaaDoor
open Go.RowKit

set_option maxHeartbeats 4000000 in
theorem heldEntryS_any (l : List Ent) (v : Value) (k : Nat) (w : World) (lo hi : Nat) (hO : EntsAt w lo hi v (markK gE cE l k)) (hhi : hi ≤ w.heap.size) (hk0 : 0 < k) (hk : k + (l.map cE).sum ≤ 1073741824) :
    Calls Tryd.prog 8 #[v, .int .i64 k] w fun e w' => e = .returned (.int .i64 ((k + (l.map cE).sum : Nat) : Int)) ∧ Below w.heap.size w w' := by
  obtain ⟨a, cap, rfl, hl, hc⟩ := hO
  rw [markK_length] at hl ⊢
  unfold maxLen at hl
  have HC : Hid (0 < l.length → ∃ b o, a = some ⟨b, o, none⟩ ∧ lo ≤ b ∧ b < hi ∧ ∀ (i : Nat) (h : i < l.length), ∀ q, q = k + ((l.take i).map cE).sum → ∃ pa pc,
      (w.cell? ⟨b, o + i * 5, none⟩ = some (.slice pa l[i].path.length pc) ∧ w.cell? ⟨b, o + i * 5 + 1, none⟩ = some (.int .i64 ((q + l[i].path.length : Nat) : Int)) ∧ w.cell? ⟨b, o + i * 5 + 2, none⟩ = some (.bool ((q + l[i].path.length + 1) % 3 == 0)) ∧ w.cell? ⟨b, o + i * 5 + 3, none⟩ = some (.int .i64 ((q + l[i].path.length + 2 : Nat) : Int)) ∧ w.cell? ⟨b, o + i * 5 + 4, none⟩ = some (.string (mtext (q + l[i].path.length + 3)))) ∧ StrsAt w lo hi (.slice pa l[i].path.length pc) (markL q l[i].path)) := fun h => by
    obtain ⟨b, o, h1, h2, h3, h4⟩ := hc (by rw [markK_length]; exact h)
    refine ⟨b, o, h1, h2, h3, fun i hi q hq => ?_⟩
    have h5 := h4 i (by rw [markK_length]; exact hi)
    rw [markK_get gE cE l k i hi] at h5
    obtain ⟨pa, pc, c0, c1, c2, c3, c4, hE⟩ := h5
    have hs := hE.1
    simp only [gE, markL_length] at c0 c1 c2 c3 c4 hs
    subst hq
    exact ⟨pa, pc, ⟨c0, c1, c2, c3, c4⟩, hs⟩
  clear hc
  generalize hres : k + (l.map cE).sum = kend
  have HEnd := hide hres
  rw [hres] at hk
  clear hres
  go_enter Tryd.func8, Tryd.ntmps8
  go_wp2_with fail
  go_loopw [1, 5] (fun x i wr => ∃ (j kj : Nat), j ≤ l.length ∧ x = .int .i64 (kj : Int) ∧ i = .int .i64 j ∧ Hid (kj = k + ((l.take j).map cE).sum) ∧ Hid (Below w.heap.size w wr)) (fun _ i _ => l.length - (intOf i).toNat)
  case atStart => exact ⟨0, k, Nat.zero_le _, rfl, rfl, (by simp : k = k + ((l.take 0).map cE).sum), Below.refl _ _⟩
  case round =>
    obtain ⟨j, kj, hj, rfl, rfl, HKj, HB⟩ := hrel
    by_cases hlt : j < l.length
    · obtain ⟨b, o, rfl, hb1, hb2, hcell⟩ := HC.out (by omega)
      obtain ⟨pa, pc, hcs, hr⟩ := hcell j hlt kj HKj.out
      have hltI : (j : Int) < (l.length : Int) := by omega
      have hsm1 := sum_drop cE l j hlt
      have hsm2 := sum_take_le cE l (j + 1)
      have hcn : cE l[j] = l[j].path.length + 4 := rfl
      have hkj := HKj.out
      have hend := HEnd.out
      have hbound : kj + cE l[j] ≤ 1073741824 := by omega
      have hkj0 : 0 < kj := by omega
      have HH := hide (heldStringS_any l[j].path _ kj wr lo hi (hr.keep HB.out hhi) (Nat.le_trans hhi HB.out.size) hkj0 (by omega))
      have HN : Hid (kj + l[j].path.length + 4 = k + ((l.take (j + 1)).map cE).sum) := by
        show _ = _
        omega
      clear hsm1 hsm2 hkj hend hcell hr
      obtain ⟨kk, hkk⟩ : ∃ kk, kj + l[j].path.length = kk := ⟨_, rfl⟩
      rw [hkk] at HN HH hcs
      have hkk2 : kk + 4 ≤ 1073741824 := by omega
      have E2 : Hid ((kk : Int) + 1 + 1 = ((kk + 2 : Nat) : Int) ∧ (kk : Int) + 1 + 1 + 1 = ((kk + 3 : Nat) : Int)) := ⟨by omega, by omega⟩
      have HCk : Hid (∀ W, Below w.heap.size w W → W.cell? ⟨b, o + j * 5, none⟩ = some (.slice pa l[j].path.length pc) ∧ W.cell? ⟨b, o + j * 5 + 1, none⟩ = some (.int .i64 (kk : Int)) ∧ W.cell? ⟨b, o + j * 5 + 2, none⟩ = some (.bool ((kk + 1) % 3 == 0)) ∧ W.cell? ⟨b, o + j * 5 + 3, none⟩ = some (.int .i64 ((kk : Int) + 1 + 1)) ∧ W.cell? ⟨b, o + j * 5 + 4, none⟩ = some (.string (mtext (kk + 3)))) := fun W h => by
        rw [E2.out.1, h.cell (p := ⟨b, o + j * 5, none⟩) (by show b < w.heap.size; omega), h.cell (p := ⟨b, o + j * 5 + 1, none⟩) (by show b < w.heap.size; omega), h.cell (p := ⟨b, o + j * 5 + 2, none⟩) (by show b < w.heap.size; omega), h.cell (p := ⟨b, o + j * 5 + 3, none⟩) (by show b < w.heap.size; omega), h.cell (p := ⟨b, o + j * 5 + 4, none⟩) (by show b < w.heap.size; omega)]
        exact hcs
      have HMT : Hid (∀ W, Below w.heap.size w W → Calls Tryd.prog 15 #[.int .i64 ((kk : Int) + 1 + 1 + 1)] W fun e' w' => e' = .returned (.string (mtext (kk + 3))) ∧ Below w.heap.size w w') := fun W hW => by
        rw [E2.out.2]
        exact (markText_any (kk + 3) W (by omega) (by omega)).mono fun e' w' ⟨h1, h2⟩ => ⟨h1, hW.trans (h2.mono hW.size)⟩
      have hmod : (((kk : Int) + 1) % 3 == 0) = ((kk + 1) % 3 == 0) := by have := mod3 (kk + 1); rwa [Int.natCast_add] at this
      have hne : (((kk + 1) % 3 == 0) != ((kk + 1) % 3 == 0)) = false := by simp
      have hnn : ¬ ((kk : Int) < 0) := by omega
      have c0 := (HCk.out wr HB.out).1
      clear hcs hkk hbound hcn
      go_wp2_with fail
      refine HH.out.mono ?_
      rintro e w1 ⟨rfl, hB1⟩
      have HB1 : Hid (Below w.heap.size w w1) := HB.out.trans (hB1.mono HB.out.size)
      obtain ⟨_, d1, d2, d3, d4⟩ := HCk.out w1 HB1.out
      clear hB1 HH HB c0
      go_wp2_with fail
      go_region_with (go_at_call 15; refine (HMT.out _ (by first | exact HB1.out.drew | exact HB1.out)).mono ?_; rintro e1 w2 ⟨rfl, hB2⟩; have HB2 := hide hB2; have q4 := (HCk.out w2 hB2).2.2.2.2; clear hB2)
      all_goals
        go_wp2_with fail
        go_roundw
        case rel => exact ⟨j + 1, kk + 4, by omega, by go_num, by go_num, HN, HB2⟩
        case measure => simp [intOf]; omega
    · have HE : Hid (kj = kend) := by
        have e : j = l.length := by omega
        have h1 := HKj.out
        subst e
        rw [List.take_length] at h1
        show _ = _
        rw [h1]; exact HEnd.out
      go_wp2_with fail
      go_ret
      exact ⟨by rw [HE.out]; rfl, HB.out⟩

end Go.Proofs.YtkidfflmbfnogaaDoor
