/- The laws' own copies of entries, in memory of their own; and their comparison. -/
import Derived.Test.YtgbdhmaacfmimaaDoorProg
import Derived.Test.YtgbdhmaacfmimaaDoorEnts
import Derived.Test.YtgbdhmaacfmimaaDoorTo
import Derived.Test.YtgbdhmaacfmimaaDoorEq
namespace Go.Proofs.YtgbdhmaacfmimaaDoor
open Go.RowKit

theorem strs_same {w w' : World} {lo hi : Nat} {v : Value} {l : List ByteArray} (h : StrsAt w lo hi v l) (hs : SameIn lo hi w w') : StrsAt w' lo hi v l := by
  obtain ⟨a, cap, hv, hl, hsz, hc⟩ := h
  refine ⟨a, cap, hv, hl, hsz, fun h0 => ?_⟩
  obtain ⟨b, o, ha, h1, h2, hcell⟩ := hc h0
  exact ⟨b, o, ha, h1, h2, fun i hi => by rw [hs.cell (p := ⟨b, o + i, none⟩) h1 h2]; exact hcell i hi⟩

theorem BlkAt {w : World} {n : Nat} {A : Array Value} {t : TypeId} (h : w.heap.size = n) : Blk (w.alloc (.cells A t)) n A t := by rw [← h]; exact Blk.new w A t

def zeroE : Array Value := #[.slice none 0 0, .int .i64 0, .bool false, .int .i64 0, .string ⟨#[]⟩]
theorem info_entry : (Tryd.prog.info? 34).map (fun i => (i.zero, i.size, i.bytes)) = some (some (.agg zeroE), 5, 64) := by kernel_rfl

set_option maxHeartbeats 1000000 in
theorem toEntry_any (e : Ent) (pa : Option Addr) (pc : Nat) (w : World) (lo hi : Nat) (he : EntOk w lo hi e pa pc) (hhi : hi ≤ w.heap.size) (hl : e.path.length ≤ 1048576) :
    Calls Tryd.prog 12 #[aggE e pa pc] w fun r w' => ∃ pa' pc', r = .returned (aggE e pa' pc') ∧ EntOk w' w.heap.size w'.heap.size e pa' pc' ∧ Below w.heap.size w w' := by
  obtain ⟨path, what, dir, mode, data⟩ := e
  have HE : Hid ((Lit.int .i64 what).wf = true ∧ (Lit.int .i64 mode).wf = true ∧ data.size ≤ maxLen) := ⟨he.2.1, he.2.2.1, he.2.2.2.1⟩
  have hp : StrsAt w lo hi (.slice pa path.length pc) path := he.1
  have hl : path.length ≤ 1048576 := hl
  have HC : Hid (∀ W, Below w.heap.size w W → Calls Tryd.prog 26 #[.slice pa path.length pc] W fun e w' => ∃ a, e = .returned (.slice a path.length path.length) ∧ StrsAt w' W.heap.size w'.heap.size (.slice a path.length path.length) path ∧ Below W.heap.size W w') := fun W hW =>
    (toStringS_cap path _ W lo hi (hp.keep hW hhi) (Nat.le_trans hhi hW.size) hl).mono fun e w' ⟨v', h1, h2, h3, _, a, h5⟩ => by
      subst h5
      exact ⟨a, h1, h2.strs, h3⟩
  clear he hp
  show Calls Tryd.prog 12 #[.agg #[.slice pa path.length pc, .int .i64 what, .bool dir, .int .i64 mode, .string data]] w _
  go_enter Tryd.func12, Tryd.ntmps12
  go_wp2_with fail
  generalize hW : ((w.alloc (Obj.cells #[.slice pa path.length pc, .int .i64 what, .bool dir, .int .i64 mode, .string data] 32)).alloc (Obj.cells #[.slice none 0 0, .int .i64 0, .bool false, .int .i64 0, .string ⟨#[]⟩] 34)).alloc (Obj.cells #[.slice none 0 0, .int .i64 0, .bool false, .int .i64 0, .string ⟨#[]⟩] 34) = W
  have HW : Hid (Below w.heap.size w W ∧ W.heap.size = w.heap.size + 3 ∧ Blk W w.heap.size #[.slice pa path.length pc, .int .i64 what, .bool dir, .int .i64 mode, .string data] 32 ∧ Blk W (w.heap.size + 1) zeroE 34 ∧ Blk W (w.heap.size + 1 + 1) zeroE 34) := by
    subst hW
    exact ⟨(((Below.refl _ _).alloc (Nat.le_refl _) _).alloc (by simp) _).alloc (by simp; omega) _, by simp, ((Blk.new _ _ _).alloc _).alloc _, (BlkAt (A := zeroE) (by simp)).alloc _, BlkAt (A := zeroE) (by simp)⟩
  clear hW
  refine (HC.out W HW.out.1).mono ?_
  rintro e w1 ⟨a1, rfl, hS1, hB1⟩
  obtain ⟨hB0, hZ0, b0, b1, b2⟩ := HW.out
  have HS1 : Hid (StrsAt w1 W.heap.size w1.heap.size (.slice a1 path.length path.length) path ∧ W.heap.size = w.heap.size + 3) := ⟨hS1, hZ0⟩
  have HBw : Hid (Below w.heap.size w w1) := hB0.trans (hB1.mono hB0.size)
  have q0 := b0.below hB1 (by omega)
  have q1 := b1.below hB1 (by omega)
  have q2 := b2.below hB1 (by omega)
  have hlt : w.heap.size + 2 < w1.heap.size := by have := hB1.size; omega
  have x1 := q0.cell 1 _ rfl
  have x2 := q0.cell 2 _ rfl
  have x3 := q0.cell 3 _ rfl
  have x4 := q0.cell 4 _ rfl
  have y0 := q1.cell 0 _ rfl
  have y1 := q1.cell 1 _ rfl
  have y2 := q1.cell 2 _ rfl
  have y3 := q1.cell 3 _ rfl
  have y4 := q1.cell 4 _ rfl
  have u0 := q1.frozen 0
  have u1 := q1.frozen 1
  have u2 := q1.frozen 2
  have u3 := q1.frozen 3
  have u4 := q1.frozen 4
  have z0 := q2.cell 0 _ rfl
  have z1 := q2.cell 1 _ rfl
  have z2 := q2.cell 2 _ rfl
  have z3 := q2.cell 3 _ rfl
  have z4 := q2.cell 4 _ rfl
  have v0 := q2.frozen 0
  have v1 := q2.frozen 1
  have v2 := q2.frozen 2
  have v3 := q2.frozen 3
  have v4 := q2.frozen 4
  clear hS1 hB1 hB0 hZ0 b0 b1 b2 q0 q1 q2 HW HC
  go_wp2_with fail
  refine bodyPost_ret (v := .agg #[.slice a1 path.length path.length, .int .i64 what, .bool dir, .int .i64 mode, .string data]) (by simp [results, Tryd.results12, go_sem, y0, y1, y2, y3, y4]) rfl ⟨_, _, rfl, ⟨?_, HE.out.1, HE.out.2.1, HE.out.2.2, Nat.le_refl _, by unfold maxLen; show path.length ≤ _; omega⟩, ?_⟩
  · obtain ⟨hS, hZ⟩ := HS1.out
    show StrsAt (set5 (set5 w1 (w.heap.size + 1 + 1) 0 (.slice a1 path.length path.length) (.int .i64 what) (.bool dir) (.int .i64 mode) (.string data)) (w.heap.size + 1) 0 (.slice a1 path.length path.length) (.int .i64 what) (.bool dir) (.int .i64 mode) (.string data)) w.heap.size (set5 (set5 w1 (w.heap.size + 1 + 1) 0 (.slice a1 path.length path.length) (.int .i64 what) (.bool dir) (.int .i64 mode) (.string data)) (w.heap.size + 1) 0 (.slice a1 path.length path.length) (.int .i64 what) (.bool dir) (.int .i64 mode) (.string data)).heap.size (.slice a1 path.length path.length) path
    rw [set5_size, set5_size]
    refine (strs_same hS fun k h1 h2 => ?_).wide (by omega) (Nat.le_refl _)
    rw [set5_other _ _ _ _ _ _ _ _ _ (by omega), set5_other _ _ _ _ _ _ _ _ _ (by omega)]
  · exact set5_below (set5_below HBw.out (by omega) 0 _ _ _ _ _) (by omega) 0 _ _ _ _ _

/-- Behind k rounds of toEntryS: block g is the row; the first k entries are laid. -/
def MadeE (l : List Ent) (g k : Nat) (f : Nat → Value) (w : World) : Prop :=
  w.rowIs g 34 (l.length * 5) f ∧ ∀ (i : Nat) (h : i < l.length), i < k → ∃ pa pc, f (i * 5) = .slice pa l[i].path.length pc ∧ f (i * 5 + 1) = .int .i64 l[i].what ∧ f (i * 5 + 2) = .bool l[i].dir ∧ f (i * 5 + 3) = .int .i64 l[i].mode ∧ f (i * 5 + 4) = .string l[i].data ∧ EntOk w (g + 1) w.heap.size l[i] pa pc

theorem MadeE.step {l : List Ent} {g k : Nat} {f : Nat → Value} {wr w1 : World} (h : MadeE l g k f wr) (hk : k < l.length) (hb : Below wr.heap.size wr w1) (hg : g < wr.heap.size) {pa : Option Addr} {pc : Nat} (ho : EntOk w1 wr.heap.size w1.heap.size l[k] pa pc) :
    MadeE l g (k + 1) (fun j => if j = k * 5 + 4 then .string l[k].data else if j = k * 5 + 3 then .int .i64 l[k].mode else if j = k * 5 + 2 then .bool l[k].dir else if j = k * 5 + 1 then .int .i64 l[k].what else if j = k * 5 then .slice pa l[k].path.length pc else f j)
      (set5 w1 g (k * 5) (.slice pa l[k].path.length pc) (.int .i64 l[k].what) (.bool l[k].dir) (.int .i64 l[k].mode) (.string l[k].data)) := by
  obtain ⟨hrow, hkids⟩ := h
  refine ⟨set5_row (hrow.of_block (hb.block g hg)) _ _ _ _ _ _, fun i hi hik => ?_⟩
  rw [set5_size]
  by_cases e1 : i = k
  · subst e1
    refine ⟨pa, pc, ?_, ?_, ?_, ?_, ?_, strs_same (ho.1.wide (by omega) (Nat.le_refl _)) fun b h1 h2 => set5_other _ _ _ _ _ _ _ _ b (by omega), ho.2⟩
    · dsimp only; rw [if_neg (by omega), if_neg (by omega), if_neg (by omega), if_neg (by omega), if_pos rfl]
    · dsimp only; rw [if_neg (by omega), if_neg (by omega), if_neg (by omega), if_pos rfl]
    · dsimp only; rw [if_neg (by omega), if_neg (by omega), if_pos rfl]
    · dsimp only; rw [if_neg (by omega), if_pos rfl]
    · dsimp only; rw [if_pos rfl]
  · obtain ⟨pa', pc', q0, q1, q2, q3, q4, hok⟩ := hkids i hi (by omega)
    have hO : EntOk w1 (g + 1) wr.heap.size l[i] pa' pc' := hok.keep hb (Nat.le_refl _)
    refine ⟨pa', pc', ?_, ?_, ?_, ?_, ?_, strs_same (hO.1.wide (Nat.le_refl _) hb.size) fun b h1 h2 => set5_other _ _ _ _ _ _ _ _ b (by omega), hok.2⟩
    · dsimp only; rw [if_neg (by omega), if_neg (by omega), if_neg (by omega), if_neg (by omega), if_neg (by omega)]; exact q0
    · dsimp only; rw [if_neg (by omega), if_neg (by omega), if_neg (by omega), if_neg (by omega), if_neg (by omega)]; exact q1
    · dsimp only; rw [if_neg (by omega), if_neg (by omega), if_neg (by omega), if_neg (by omega), if_neg (by omega)]; exact q2
    · dsimp only; rw [if_neg (by omega), if_neg (by omega), if_neg (by omega), if_neg (by omega), if_neg (by omega)]; exact q3
    · dsimp only; rw [if_neg (by omega), if_neg (by omega), if_neg (by omega), if_neg (by omega), if_neg (by omega)]; exact q4

theorem MadeE.done {l : List Ent} {g k B : Nat} {f : Nat → Value} {w : World} (h : MadeE l g k f w) (hk : ¬ k < l.length) (hl : l.length ≤ maxLen) (cap : Nat) (hB : B ≤ g) : EntsAt w B w.heap.size (.slice (some ⟨g, 0, none⟩) l.length cap) l := by
  obtain ⟨hrow, hkids⟩ := h
  refine ⟨_, _, rfl, hl, fun _ => ⟨g, 0, rfl, hB, hrow.lt, fun i hi => ?_⟩⟩
  obtain ⟨pa, pc, q0, q1, q2, q3, q4, hok⟩ := hkids i hi (by omega)
  refine ⟨pa, pc, ?_, ?_, ?_, ?_, ?_, hok.wide (by omega) (Nat.le_refl _)⟩
  · rw [Nat.zero_add, hrow.cell (by omega), q0]
  · rw [Nat.zero_add, hrow.cell (by omega), q1]
  · rw [Nat.zero_add, hrow.cell (by omega), q2]
  · rw [Nat.zero_add, hrow.cell (by omega), q3]
  · rw [Nat.zero_add, hrow.cell (by omega), q4]

set_option maxHeartbeats 1000000 in
theorem toEntryS_any (l : List Ent) (v : Value) (w : World) (lo hi : Nat) (hv : EntsAt w lo hi v l) (hhi : hi ≤ w.heap.size) (hl : l.length ≤ 1048576) (hsm : ∀ (i : Nat) (h : i < l.length), l[i].path.length ≤ 1048576) :
    Calls Tryd.prog 6 #[v] w fun e w' => ∃ a, e = .returned (.slice a l.length l.length) ∧ EntsAt w' w.heap.size w'.heap.size (.slice a l.length l.length) l ∧ Below w.heap.size w w' := by
  obtain ⟨a, cap, rfl, _, hc⟩ := hv
  have HSm : Hid (∀ (i : Nat) (h : i < l.length), l[i].path.length ≤ 1048576) := hsm
  clear hsm
  have hmk := run_make_five (P := Tryd.prog) 25 34 zeroE 64 Tryd.underlying25 info_entry .i64 .i64 l.length (by omega) (by omega)
  go_enter Tryd.func6, Tryd.ntmps6
  go_wp2
  go_loopw [4] (fun i wr => ∃ (k : Nat) (f : Nat → Value), k ≤ l.length ∧ i = .int .i64 k ∧ Hid (Below w.heap.size w wr) ∧ Hid (MadeE l w.heap.size k f wr)) (fun i _ => l.length - (intOf i).toNat)
  case atStart =>
    exact ⟨0, _, Nat.zero_le _, rfl, (Below.refl _ _).alloc (Nat.le_refl _) _, rowIs_made_any w zeroE (l.length * 5) 34, fun i _ h => by omega⟩
  case round =>
    obtain ⟨k, f, hk, rfl, HB, HM⟩ := hrel
    by_cases hlt : k < l.length
    · obtain ⟨b, o, rfl, hb1, hb2, hcell⟩ := hc (by omega)
      obtain ⟨pa, pc, c0, c1, c2, c3, c4, hr⟩ := hcell k hlt
      have HR : Hid (EntOk wr lo hi l[k] pa pc) := hr.keep HB.out hhi
      have hz : hi ≤ wr.heap.size := Nat.le_trans hhi HB.out.size
      rw [← HB.out.cell (p := ⟨b, _, none⟩) (by show b < w.heap.size; omega)] at c0 c1 c2 c3 c4
      clear hc hcell hr hmk
      go_wp2_with fail
      refine (toEntry_any l[k] pa pc wr lo hi HR.out hz (HSm.out k hlt)).mono ?_
      rintro e1 w1 ⟨pa', pc', rfl, hO, hB1⟩
      have HO : Hid (EntOk w1 wr.heap.size w1.heap.size l[k] pa' pc') := hO
      have HB1 : Hid (Below wr.heap.size wr w1) := hB1
      clear hO hB1
      have HG : Hid (w.heap.size < wr.heap.size) := HM.out.1.lt
      have hcw : ∀ j, j < 5 → w1.cell? ⟨w.heap.size, k * 5 + j, none⟩ = some (f (k * 5 + j)) := fun j hj => by
        rw [HB1.out.cell (p := ⟨w.heap.size, _, none⟩) HG.out]; exact HM.out.1.cell (by omega)
      have hfw : ∀ j, w1.frozen? ⟨w.heap.size, k * 5 + j, none⟩ = false := fun j => by
        rw [HB1.out.frozen (p := ⟨w.heap.size, _, none⟩) HG.out]; exact HM.out.1.frozen _
      have d0 := hcw 0 (by omega)
      have d1 := hcw 1 (by omega)
      have d2 := hcw 2 (by omega)
      have d3 := hcw 3 (by omega)
      have d4 := hcw 4 (by omega)
      have f0 := hfw 0
      have f1 := hfw 1
      have f2 := hfw 2
      have f3 := hfw 3
      have f4 := hfw 4
      simp only [Nat.add_zero] at d0 f0
      clear hcw hfw
      go_wp2_with fail
      go_roundw
      case rel => exact ⟨k + 1, _, by omega, by go_num, set5_below (HB.out.trans (HB1.out.mono HB.out.size)) (Nat.le_refl _) _ _ _ _ _ _, HM.out.step hlt HB1.out HG.out HO.out⟩
      case measure => simp [intOf]; omega
    · go_wp2
      go_ret
      exact ⟨_, rfl, HM.out.done hlt (by unfold maxLen; omega) _ (Nat.le_refl _), HB.out⟩

set_option maxHeartbeats 1000000 in
theorem eqEntry_any (e : Ent) (pa pa' : Option Addr) (pc pc' : Nat) (w : World) (lo hi lo' hi' : Nat) (h : EntOk w lo hi e pa pc) (h' : EntOk w lo' hi' e pa' pc') (hhi : hi ≤ w.heap.size) (hhi' : hi' ≤ w.heap.size) :
    Calls Tryd.prog 19 #[aggE e pa pc, aggE e pa' pc'] w fun r w' => r = .returned (.bool true) ∧ Below w.heap.size w w' := by
  obtain ⟨path, what, dir, mode, data⟩ := e
  have HC : Hid (∀ W, Below w.heap.size w W → Calls Tryd.prog 34 #[.slice pa path.length pc, .slice pa' path.length pc'] W fun e w' => e = .returned (.bool true) ∧ Below W.heap.size W w') := fun W hW =>
    eqStringS_any path _ _ W lo hi lo' hi' (h.1.keep hW hhi) (h'.1.keep hW hhi') (Nat.le_trans hhi hW.size) (Nat.le_trans hhi' hW.size)
  clear h h'
  show Calls Tryd.prog 19 #[.agg #[.slice pa path.length pc, .int .i64 what, .bool dir, .int .i64 mode, .string data], .agg #[.slice pa' path.length pc', .int .i64 what, .bool dir, .int .i64 mode, .string data]] w _
  have hn1 : (what != what) = false := by simp
  have hn2 : (mode != mode) = false := by simp
  have hn3 : (dir != dir) = false := by simp
  go_enter Tryd.func19, Tryd.ntmps19
  go_wp2_with fail
  generalize hW : (w.alloc (Obj.cells #[.slice pa path.length pc, .int .i64 what, .bool dir, .int .i64 mode, .string data] 34)).alloc (Obj.cells #[.slice pa' path.length pc', .int .i64 what, .bool dir, .int .i64 mode, .string data] 34) = W
  have HW : Hid (Below w.heap.size w W ∧ Blk W w.heap.size #[.slice pa path.length pc, .int .i64 what, .bool dir, .int .i64 mode, .string data] 34 ∧ Blk W (w.heap.size + 1) #[.slice pa' path.length pc', .int .i64 what, .bool dir, .int .i64 mode, .string data] 34) := by
    subst hW
    exact ⟨((Below.refl _ _).alloc (Nat.le_refl _) _).alloc (by simp) _, (Blk.new _ _ _).alloc _, BlkAt (by simp)⟩
  clear hW
  refine (HC.out W HW.out.1).mono ?_
  rintro e w1 ⟨rfl, hB1⟩
  obtain ⟨hB0, b0, b1⟩ := HW.out
  have HB1 : Hid (Below w.heap.size w w1) := hB0.trans (hB1.mono hB0.size)
  have q0 := b0.below hB1 b0.lt
  have q1 := b1.below hB1 b1.lt
  have x1 := q0.cell 1 _ rfl
  have x2 := q0.cell 2 _ rfl
  have x3 := q0.cell 3 _ rfl
  have x4 := q0.cell 4 _ rfl
  have y1 := q1.cell 1 _ rfl
  have y2 := q1.cell 2 _ rfl
  have y3 := q1.cell 3 _ rfl
  have y4 := q1.cell 4 _ rfl
  clear hB0 b0 b1 hB1 q0 q1 HW HC
  go_wp2_with fail
  go_ret
  exact ⟨rfl, HB1.out⟩

set_option maxHeartbeats 2000000 in
theorem eqEntryS_any (l : List Ent) (v v' : Value) (w : World) (lo hi lo' hi' : Nat) (hv : EntsAt w lo hi v l) (hv' : EntsAt w lo' hi' v' l) (hhi : hi ≤ w.heap.size) (hhi' : hi' ≤ w.heap.size) :
    Calls Tryd.prog 8 #[v, v'] w fun e w' => e = .returned (.bool true) ∧ Below w.heap.size w w' := by
  obtain ⟨a, cap, rfl, hl, hc⟩ := hv
  obtain ⟨a', cap', rfl, _, hc'⟩ := hv'
  unfold maxLen at hl
  go_enter Tryd.func8, Tryd.ntmps8
  go_wp2
  go_loopw [5] (fun i wr => ∃ (k : Nat), k ≤ l.length ∧ i = .int .i64 k ∧ Hid (Below w.heap.size w wr)) (fun i _ => l.length - (intOf i).toNat)
  case atStart => exact ⟨0, Nat.zero_le _, rfl, Below.refl _ _⟩
  case round =>
    obtain ⟨k, hk, rfl, HB⟩ := hrel
    by_cases hlt : k < l.length
    · obtain ⟨b, o, rfl, hb1, hb2, hcell⟩ := hc (by omega)
      obtain ⟨b', o', rfl, hb1', hb2', hcell'⟩ := hc' (by omega)
      obtain ⟨pa, pc, c0, c1, c2, c3, c4, hr⟩ := hcell k hlt
      obtain ⟨pa', pc', d0, d1, d2, d3, d4, hr'⟩ := hcell' k hlt
      rw [← HB.out.cell (p := ⟨b, _, none⟩) (by show b < w.heap.size; omega)] at c0 c1 c2 c3 c4
      rw [← HB.out.cell (p := ⟨b', _, none⟩) (by show b' < w.heap.size; omega)] at d0 d1 d2 d3 d4
      have hd : (k : Int) < (l.length : Int) := by omega
      have HC : Hid (∀ w1, Below w.heap.size w w1 → Calls Tryd.prog 19 #[.agg #[.slice pa l[k].path.length pc, .int .i64 l[k].what, .bool l[k].dir, .int .i64 l[k].mode, .string l[k].data], .agg #[.slice pa' l[k].path.length pc', .int .i64 l[k].what, .bool l[k].dir, .int .i64 l[k].mode, .string l[k].data]] w1 fun e w' => e = .returned (.bool true) ∧ Below w.heap.size w w') := fun w1 h1 =>
        (eqEntry_any l[k] pa pa' pc pc' w1 lo hi lo' hi' (hr.keep h1 hhi) (hr'.keep h1 hhi') (Nat.le_trans hhi h1.size) (Nat.le_trans hhi' h1.size)).mono fun e w' ⟨h, h2⟩ => ⟨h, h1.trans (h2.mono h1.size)⟩
      clear hc hc' hcell hcell' hr hr'
      go_wp2
      go_region_with (go_at_call 19; refine (HC.out _ (by first | exact HB.out.drew | exact HB.out)).mono ?_; rintro e w1 ⟨rfl, hB1⟩; have HB1 : Hid (Below w.heap.size w w1) := hB1; clear hB1)
      all_goals
        go_wp2
        go_roundw
        case rel => exact ⟨k + 1, by omega, by go_num, HB1⟩
        case measure => simp [intOf]; omega
    · go_wp2
      go_ret
      exact ⟨rfl, HB.out⟩

end Go.Proofs.YtgbdhmaacfmimaaDoor
