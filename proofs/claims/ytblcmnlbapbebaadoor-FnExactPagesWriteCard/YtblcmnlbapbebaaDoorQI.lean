/- The shelf's queue of ints (cells 2 and 3 of the shelf's block): Len, Less, Push, up, put, as long as what is put is not less than what is there. -/
import Derived.Test.YtblcmnlbapbebaaDoorLow
import Derived.Test.YtblcmnlbapbebaaDoorQt
import Derived.BigQuiet
import Derived.BigRegion
import Derived.RegionTactic
import Derived.Deep.RegionLaw
import Derived.Deep.AppendLies
import Derived.Deep.QuietTactic
namespace Go.Proofs.YtblcmnlbapbebaaDoor
open Go.RowKit

theorem cell_below {B : Nat} {w w' : World} {p : Addr} {v : Value} (h : Below B w w') (hp : p.block < B) (hc : w.cell? p = some v) : w'.cell? p = some v := (h.cell hp).trans hc

set_option maxHeartbeats 400000 in
theorem nanI_any (x : Int) (w : World) : Calls Tryd.prog 41 #[.int .i64 x] w fun e w' => e = .returned (.bool false) ∧ w' = w := by
  have h : (x != x) = false := by simp
  go_enter Tryd.func41, Tryd.ntmps41
  go_wp2
  go_ret
  exact ⟨rfl, rfl⟩

set_option maxHeartbeats 400000 in
theorem lessI_any (x y : Int) (w : World) : Calls Tryd.prog 30 #[.int .i64 x, .int .i64 y] w fun e w' => e = .returned (.bool (decide (x < y))) ∧ w' = w := by
  go_enter Tryd.func30, Tryd.ntmps30
  go_wp2_with (go_at_call 41; refine (nanI_any _ _).mono ?_; rintro e w ⟨rfl, rfl⟩)
  go_ret
  exact ⟨rfl, rfl⟩

set_option maxHeartbeats 400000 in
theorem qLenI_any (w : World) (sb : Nat) (ia : Option Addr) (n ic : Nat) (h : w.cell? ⟨sb, 2, none⟩ = some (.slice ia n ic)) :
    Calls Tryd.prog 90 #[.pointer (some ⟨sb, 2, none⟩)] w fun e w' => e = .returned (.int .i64 n) ∧ w' = w := by
  go_enter Tryd.func90, Tryd.ntmps90
  go_wp2_with fail
  go_ret
  exact ⟨rfl, rfl⟩

set_option maxHeartbeats 2000000 in
theorem qLessI_any (w : World) (sb g i j n ic : Nat) (xi xj : Int) (h4 : w.cell? ⟨sb, 2, none⟩ = some (.slice (some ⟨g, 0, none⟩) n ic)) (h5 : w.cell? ⟨sb, 3, none⟩ = some (.func (.func 30) #[] #[]))
    (hi : i < n) (hj : j < n) (ci : w.cell? ⟨g, i, none⟩ = some (.int .i64 xi)) (cj : w.cell? ⟨g, j, none⟩ = some (.int .i64 xj)) (hsb : sb < w.heap.size) (hg : g < w.heap.size) :
    Calls Tryd.prog 91 #[.pointer (some ⟨sb, 2, none⟩), .int .i64 i, .int .i64 j] w fun e w' => e = .returned (.bool (decide (xi < xj))) ∧ Below w.heap.size w w' := by
  have HD : Hid (∀ W, Below w.heap.size w W → Calls Tryd.prog 30 #[.int .i64 xi, .int .i64 xj] W fun e w' => e = .returned (.bool (decide (xi < xj))) ∧ Below w.heap.size w w') := fun W hW =>
    (lessI_any xi xj W).mono fun e w' ⟨h1, h2⟩ => by subst h2; exact ⟨h1, hW⟩
  have x4 : ∀ x : Wd (Below w.heap.size w), x.w.cell? ⟨sb, 2, none⟩ = some (.slice (some ⟨g, 0, none⟩) n ic) := fun x => cell_below x.h hsb h4
  have x5 : ∀ x : Wd (Below w.heap.size w), x.w.cell? ⟨sb, 3, none⟩ = some (.func (.func 30) #[] #[]) := fun x => cell_below x.h hsb h5
  have xi' : ∀ x : Wd (Below w.heap.size w), x.w.cell? ⟨g, i, none⟩ = some (.int .i64 xi) := fun x => cell_below x.h hg ci
  have xj' : ∀ x : Wd (Below w.heap.size w), x.w.cell? ⟨g, j, none⟩ = some (.int .i64 xj) := fun x => cell_below x.h hg cj
  have hne : Nonempty (Wd (Below w.heap.size w)) := ⟨⟨w, Below.refl _ _⟩⟩
  have hiI : (i : Int) < (n : Int) := by omega
  have hjI : (j : Int) < (n : Int) := by omega
  have HB : Hid (Below w.heap.size w w.drew) := (Below.refl _ _).drew
  generalize decide (xi < xj) = r at *
  clear h4 h5 ci cj
  go_enter Tryd.func91, Tryd.ntmps91
  go_wp2_with fail
  refine wp_region_own (Below w.heap.size w) (by kernel_rfl) (by kernel_rfl) HB.out ?_
  repeat (go_big_quiet_step ((go_at_call 30; exact own_call (HD.out _ (Wd.h _)))))
  refine wpQuiet_nil ?_
  intro w1 hB1
  have HB1 := hide hB1
  clear hB1
  go_wp2_with fail
  go_ret
  exact ⟨rfl, HB1.out⟩

theorem info_I : ∃ i, Tryd.prog.info? 3 = some i ∧ i.zero = some (.int .i64 0) ∧ i.size = 1 ∧ i.bytes = 8 := by
  obtain ⟨i, hi, h⟩ := Option.map_eq_some_iff.1 (show (Tryd.prog.info? 3).map (fun i => (i.zero, i.size, i.bytes)) = some (some (.int .i64 0), 1, 8) by kernel_rfl)
  simp only [Prod.mk.injEq] at h
  exact ⟨i, hi, h.1, h.2.1, h.2.2⟩
theorem ta_int (x : Int) (w : World) : Sem.run Tryd.prog (Instr.typeAssert (.iface 3 (.int .i64 x)) 20 3 false) w = .ok (.int .i64 x) w := by kernel_rfl

set_option maxHeartbeats 2000000 in
theorem qPushI_any (w : World) (lo sb n : Nat) (iv : Value) (items : List Value) (x : Int) (h4 : w.cell? ⟨sb, 2, none⟩ = some iv) (f4 : w.frozen? ⟨sb, 2, none⟩ = false) (hir : w.ownsRow lo 3 1 iv n items) (hne : iv.ownBlock ≠ some sb) (hn : n ≤ 1000) (hlo : lo ≤ w.heap.size) (hsb : sb < w.heap.size) :
    Calls Tryd.prog 92 #[.pointer (some ⟨sb, 2, none⟩), .iface 3 (.int .i64 x)] w fun e w' => e = .returned (.tuple #[]) ∧ ∃ g cap w1 o, w' = w1.setCell ⟨sb, 2, none⟩ (.slice (some ⟨g, 0, none⟩) (n + 1) cap) ∧
      w1.ownsRow lo 3 1 (.slice (some ⟨g, 0, none⟩) (n + 1) cap) (n + 1) (items ++ [.int .i64 x]) ∧ (w.alloc o).grownBy w1 iv.ownBlock ∧ (iv.ownBlock = some g ∨ g = (w.alloc o).heap.size) := by
  obtain ⟨iS, hiS', hzS, hsS, hbS⟩ := info_I
  have hiS := hide hiS'
  clear hiS'
  have HOwn := hide hir
  have HNe := hide hne
  have hta := ta_int x
  clear hir hne
  go_enter Tryd.func92, Tryd.ntmps92
  go_wp2_with fail
  go_region_law (first
    | (refine step_append_lies _ rfl (.tmp 8) (.tmp 11) 61 rfl lo 3 iS (.int .i64 0) 1 8 Tryd.underlying61 hiS.out hzS hsS hbS rfl (by decide) iv n items (by simp [Act.eval]) (HOwn.out.alloc _) ⟨w.heap.size, 0, none⟩ 1 1 [.int .i64 x] (by simp [Act.eval]) rfl (World.news_of_block (heap_alloc_new w _)) (by simp [Value.oneCell']) (by omega) (by unfold maxLen; omega) (by omega) (by simp; omega) _ rfl ?_
       intro g cap w1 hown hgrow hat hgl
       have HOWN := hide hown
       have HGROW := hide hgrow
       have HAT := hide hat
       have hbt : w1.heap[sb]? = w.heap[sb]? := by rw [hgrow.block sb (by simp; omega) (fun e => HNe.out e.symm)]; exact Below.heap_alloc _ _ _ hsb
       have z4 : w1.cell? ⟨sb, 2, none⟩ = some iv := by rw [World.cell?_of_block (w := w) hbt]; exact h4
       have z4f : w1.frozen? ⟨sb, 2, none⟩ = false := by rw [World.frozen?_of_block (w := w) hbt]; exact f4
       clear hown hgrow hat hbt)
    | fail)
  all_goals
    go_wp2_with fail
    go_end0
    exact ⟨rfl, g, cap, w1, _, rfl, HOWN.out, ⟨HGROW.out.os, HGROW.out.tape, HGROW.out.output, HGROW.out.size, HGROW.out.block⟩, HAT.out⟩

theorem mI_less (p : Option Addr) (w : World) : (Go.method 276 94 (.pointer p) "Less").run Tryd.prog w = .ok (91, .pointer p) w := by kernel_rfl
theorem mI_push (p : Option Addr) (w : World) : (Go.method 276 94 (.pointer p) "Push").run Tryd.prog w = .ok (92, .pointer p) w := by kernel_rfl
theorem mI_len (p : Option Addr) (w : World) : (Go.method 276 94 (.pointer p) "Len").run Tryd.prog w = .ok (90, .pointer p) w := by kernel_rfl

set_option maxHeartbeats 4000000 in
/-- Where the last is not less than the one above it nothing is changed. -/
theorem upI_any (w : World) (sb g n ic j : Nat) (xi xj : Int) (h4 : w.cell? ⟨sb, 2, none⟩ = some (.slice (some ⟨g, 0, none⟩) n ic)) (h5 : w.cell? ⟨sb, 3, none⟩ = some (.func (.func 30) #[] #[]))
    (hj : j < n) (ci : w.cell? ⟨g, (j - 1) / 2, none⟩ = some (.int .i64 xi)) (cj : w.cell? ⟨g, j, none⟩ = some (.int .i64 xj)) (hx : xi ≤ xj) (hsb : sb < w.heap.size) (hg : g < w.heap.size) (hn2 : n ≤ 1000) :
    Calls Tryd.prog 51 #[.iface 94 (.pointer (some ⟨sb, 2, none⟩)), .int .i64 j] w fun e w' => e = .returned (.tuple #[]) ∧ Below w.heap.size w w' := by
  by_cases hj0 : j = 0
  · subst hj0
    go_enter Tryd.func51, Tryd.ntmps51
    go_wp2_with fail
    refine wp_loop_rounds 1 ?_
    rw [rounds_succ]
    go_wp2_with fail
    go_end0
    exact ⟨rfl, Below.refl _ _⟩
  · obtain ⟨k, rfl⟩ : ∃ k, j = k + 1 := ⟨j - 1, by omega⟩
    simp only [Nat.add_sub_cancel] at ci
    have HL : Hid (Calls Tryd.prog 91 #[.pointer (some ⟨sb, 2, none⟩), .int .i64 ((k : Int) + 1), .int .i64 ((k / 2 : Nat) : Int)] w fun e w' => e = .returned (.bool false) ∧ Below w.heap.size w w') := by
      have := qLessI_any w sb g (k + 1) (k / 2) n ic xj xi h4 h5 hj (by omega) cj ci hsb hg
      rwa [show decide (xj < xi) = false by simp; omega] at this
    have hq : (k : Int).tdiv 2 = ((k / 2 : Nat) : Int) := by rw [Int.tdiv_eq_ediv_of_nonneg (by omega)]; rfl
    have hne : (((k / 2 : Nat) : Int) == ((k : Int) + 1)) = false := by rw [beq_eq_false_iff_ne]; omega
    have hmL := mI_less (some ⟨sb, 2, none⟩)
    have hkk : k / 2 < k + 1 := by omega
    generalize hK : k / 2 = kk at *
    clear hK ci cj h4 h5 hx
    go_enter Tryd.func51, Tryd.ntmps51
    go_wp2_with fail
    go_loopw [1] (fun y wr => y = .int .i64 ((k : Int) + 1) ∧ wr = w) (fun y _ => (intOf y).toNat)
    case atStart => exact ⟨rfl, rfl⟩
    case round =>
      obtain ⟨rfl, rfl⟩ := hrel
      go_wp2_with fail
      refine HL.out.mono ?_
      rintro e w1 ⟨rfl, hB1⟩
      have HB1 := hide hB1
      clear hB1
      go_wp2_with fail
      go_end0
      exact ⟨rfl, HB1.out⟩

/-- The queue's two cells, and the row of what is in it. -/
structure QI (w : World) (lo sb : Nat) (iv : Value) (xs : List Nat) : Prop where
  c2 : w.cell? ⟨sb, 2, none⟩ = some iv
  f2 : w.frozen? ⟨sb, 2, none⟩ = false
  c3 : w.cell? ⟨sb, 3, none⟩ = some (.func (.func 30) #[] #[])
  ir : w.ownsRow lo 3 1 iv xs.length (xs.map fun (x : Nat) => Value.int .i64 (x : Int))
  ne : iv.ownBlock ≠ some sb
  low : lo ≤ w.heap.size
  lt : sb < w.heap.size

/-- All is as it was but for the queue's own: its row, and cell 2 of the shelf. -/
structure QFr (sb : Nat) (iv : Value) (w w' : World) : Prop where
  os : w'.os = w.os
  tape : w'.tape = w.tape
  output : w'.output = w.output
  size : w.heap.size ≤ w'.heap.size
  block : ∀ k, k < w.heap.size → k ≠ sb → iv.ownBlock ≠ some k → w'.heap[k]? = w.heap[k]?
  cell : ∀ j, j ≠ 2 → w'.cell? ⟨sb, j, none⟩ = w.cell? ⟨sb, j, none⟩
  fz : ∀ j, w'.frozen? ⟨sb, j, none⟩ = w.frozen? ⟨sb, j, none⟩
theorem QFr.below {sb : Nat} {iv : Value} {w w1 w' : World} (h : QFr sb iv w w1) (hb : Below w1.heap.size w1 w') (hsb : sb < w.heap.size) : QFr sb iv w w' :=
  have hs : sb < w1.heap.size := Nat.lt_of_lt_of_le hsb h.size
  ⟨hb.os.trans h.os, hb.tape.trans h.tape, hb.output.trans h.output, Nat.le_trans h.size hb.size, fun k h1 h2 h3 => (hb.block k (Nat.lt_of_lt_of_le h1 h.size)).trans (h.block k h1 h2 h3),
    fun j hj => (hb.cell (p := ⟨sb, j, none⟩) hs).trans (h.cell j hj), fun j => (hb.frozen (p := ⟨sb, j, none⟩) hs).trans (h.fz j)⟩
theorem QFr.toBelow {sb lo : Nat} {iv : Value} {w w' : World} (h : QFr sb iv w w') (h1 : lo ≤ sb) (h2 : ∀ k, iv.ownBlock = some k → lo ≤ k) (h3 : lo ≤ w.heap.size) : Below lo w w' :=
  ⟨h.os, h.tape, h.output, h.size, fun k hk => h.block k (by omega) (by omega) (fun e => by have := h2 k e; omega)⟩
theorem QI.below {w w' : World} {lo sb : Nat} {iv : Value} {xs : List Nat} (h : QI w lo sb iv xs) (hb : Below w.heap.size w w') : QI w' lo sb iv xs :=
  ⟨(hb.cell (p := ⟨sb, 2, none⟩) h.lt).trans h.c2, (hb.frozen (p := ⟨sb, 2, none⟩) h.lt).trans h.f2, (hb.cell (p := ⟨sb, 3, none⟩) h.lt).trans h.c3, ownsRow_same h.ir fun g hg => hb.block g (h.ir.lt g hg).2, h.ne, Nat.le_trans h.low hb.size, Nat.lt_of_lt_of_le h.lt hb.size⟩

set_option maxHeartbeats 2000000 in
theorem qPutI_any (w : World) (lo sb : Nat) (iv : Value) (xs : List Nat) (x : Nat) (Q : QI w lo sb iv xs) (hasc : ∀ y ∈ xs, y ≤ x) (hn : xs.length ≤ 900) :
    Calls Tryd.prog 32 #[.pointer (some ⟨sb, 2, none⟩), .int .i64 x] w fun e w' => e = .returned (.tuple #[]) ∧ ∃ iv', QI w' lo sb iv' (xs ++ [x]) ∧ QFr sb iv w w' ∧ (iv'.ownBlock = iv.ownBlock ∨ ∃ g, iv'.ownBlock = some g ∧ w.heap.size ≤ g) := by
  have HP := hide (qPushI_any w lo sb xs.length iv _ x Q.c2 Q.f2 Q.ir Q.ne (by omega) Q.low Q.lt)
  have HQ := hide Q
  have hmP := mI_push (some ⟨sb, 2, none⟩)
  have hmL := mI_len (some ⟨sb, 2, none⟩)
  have HAs := hide hasc
  clear Q hasc
  have HH : Hid (Calls Tryd.prog 43 #[.iface 94 (.pointer (some ⟨sb, 2, none⟩)), .iface 3 (.int .i64 (x : Int))] w fun e w' => e = .returned (.tuple #[]) ∧ ∃ iv', QI w' lo sb iv' (xs ++ [x]) ∧ QFr sb iv w w' ∧ (iv'.ownBlock = iv.ownBlock ∨ ∃ g, iv'.ownBlock = some g ∧ w.heap.size ≤ g)) := by
    show Calls _ _ _ _ _
    go_enter Tryd.func43, Tryd.ntmps43
    go_wp2_with fail
    refine HP.out.mono ?_
    rintro e w1' ⟨rfl, g, cap, w1, o, rfl, hir, hg, hat⟩
    have hne := HQ.out.ne
    have hlt := HQ.out.lt
    have hlow := HQ.out.low
    have hs1 : w.heap.size + 1 ≤ w1.heap.size := by have := hg.size; simpa using this
    have hgs : g ≠ sb := fun e => by
      rcases hat with h | h
      · exact hne (by rw [h, e])
      · simp at h; omega
    have hgl : g < w1.heap.size := (hir.lt g rfl).2
    have hbs : w1.heap[sb]? = w.heap[sb]? := by rw [hg.block sb (by simp; omega) (fun e => hne e.symm), Below.heap_alloc _ _ _ hlt]
    have HW2 : Hid (QI (w1.setCell ⟨sb, 2, none⟩ (.slice (some ⟨g, 0, none⟩) (xs.length + 1) cap)) lo sb (.slice (some ⟨g, 0, none⟩) (xs.length + 1) cap) (xs ++ [x]) ∧ QFr sb iv w (w1.setCell ⟨sb, 2, none⟩ (.slice (some ⟨g, 0, none⟩) (xs.length + 1) cap)) ∧ (some g = iv.ownBlock ∨ w.heap.size ≤ g)) := by
      refine ⟨⟨World.cell?_setCell_same' _ _ _ (by rw [World.cell?_of_block (w := w) hbs, HQ.out.c2]; rfl), by rw [World.frozen?_setCell, World.frozen?_of_block (w := w) hbs]; exact HQ.out.f2, ?_, ?_, fun e => ?_, by simp [World.setCell]; omega, by simp [World.setCell]; omega⟩, ⟨hg.os, hg.tape, hg.output, by simp [World.setCell]; omega, fun k h1 h2 h3 => ?_, fun j hj => ?_, fun j => ?_⟩, ?_⟩
      · rw [World.cell?_setCell_other _ _ _ _ (by intro h; injection h with _ h2 _; omega), World.cell?_of_block (w := w) hbs]; exact HQ.out.c3
      · have h0 : (xs ++ [x]).length = xs.length + 1 := by simp
        rw [h0, List.map_append]
        exact ownsRow_same hir fun g' hg' => Below.heap_setCell _ _ _ _ (fun e : g' = sb => by simp only [Value.ownBlock, Option.some.injEq] at hg'; omega)
      · simp only [Value.ownBlock, Option.some.injEq] at e; exact hgs e
      · rw [Below.heap_setCell _ _ _ _ h2, hg.block k (by simp; omega) (fun e => h3 e.symm), Below.heap_alloc _ _ _ h1]
      · rw [World.cell?_setCell_other _ _ _ _ (by intro h; injection h with _ h3 _; omega), World.cell?_of_block (w := w) hbs]
      · rw [World.frozen?_setCell, World.frozen?_of_block (w := w) hbs]
      · rcases hat with h | h
        · exact .inl h.symm
        · exact .inr (by simp at h; omega)
    generalize w1.setCell ⟨sb, 2, none⟩ (.slice (some ⟨g, 0, none⟩) (xs.length + 1) cap) = w2 at HW2 ⊢
    have hln : (xs ++ [x]).length = xs.length + 1 := by simp
    have hrow : ∀ (i : Nat) (h : i < (xs ++ [x]).length), w2.cell? ⟨g, i, none⟩ = some (.int .i64 ((xs ++ [x])[i] : Int)) := fun i h => by
      have hir2 := HW2.out.1.ir
      rw [hln] at hir2
      rw [hir2.cellAt i (by omega), List.getElem?_map, List.getElem?_eq_getElem h]; rfl
    have hg2 : g < w2.heap.size := (HW2.out.1.ir.lt g rfl).2
    have HL := hide (qLenI_any w2 sb _ _ _ HW2.out.1.c2)
    have HU : Hid (Calls Tryd.prog 51 #[.iface 94 (.pointer (some ⟨sb, 2, none⟩)), .int .i64 (xs.length : Int)] w2 fun e w' => e = .returned (.tuple #[]) ∧ Below w2.heap.size w2 w') := by
      refine upI_any w2 sb g (xs.length + 1) cap xs.length _ _ HW2.out.1.c2 HW2.out.1.c3 (by omega) (hrow ((xs.length - 1) / 2) (by omega)) (hrow xs.length (by omega)) ?_ HW2.out.1.lt hg2 (by omega)
      rw [List.getElem_append_right (Nat.le_refl _)]
      simp only [Nat.sub_self, List.getElem_cons_zero]
      by_cases h0 : (xs.length - 1) / 2 < xs.length
      · rw [List.getElem_append_left h0]
        have := HAs.out _ (List.getElem_mem h0)
        omega
      · rw [List.getElem_append_right (by omega)]
        have : xs.length = 0 := by omega
        simp [this]
    clear hir hg hat HP hrow
    go_wp2_with fail
    refine HL.out.mono ?_
    rintro e w3 ⟨rfl, rfl⟩
    go_wp2_with fail
    refine HU.out.mono ?_
    rintro e w4 ⟨rfl, hB⟩
    have HE : Hid (∃ iv', QI w4 lo sb iv' (xs ++ [x]) ∧ QFr sb iv w w4 ∧ (iv'.ownBlock = iv.ownBlock ∨ ∃ g, iv'.ownBlock = some g ∧ w.heap.size ≤ g)) := by
      refine ⟨_, HW2.out.1.below hB, HW2.out.2.1.below hB hlt, ?_⟩
      rcases HW2.out.2.2 with h | h
      · exact .inl h
      · exact .inr ⟨g, rfl, h⟩
    clear hB
    go_wp2_with fail
    go_end0
    exact ⟨rfl, HE.out⟩
  clear HP
  go_enter Tryd.func32, Tryd.ntmps32
  go_wp2_with fail
  refine HH.out.mono ?_
  rintro e w1 ⟨rfl, hT⟩
  have HT := hide hT
  clear hT
  go_wp2_with fail
  go_end0
  exact ⟨rfl, HT.out⟩

end Go.Proofs.YtblcmnlbapbebaaDoor
