/- The shelf's queue of ints: put in any order (what is in it is a row of numbers still; the order is not told). -/
import Derived.Test.YtnahpghbodmdbaaDoorQI
namespace Go.Proofs.YtnahpghbodmdbaaDoor
open Go.RowKit

theorem mI_swap (p : Option Addr) (w : World) : (Go.method 279 101 (.pointer p) "Swap").run Tryd.prog w = .ok (97, .pointer p) w := by kernel_rfl

theorem rowI_set {w : World} {base : Nat} {e : TypeId} {g n cap : Nat} {xs : List Value} (h : w.ownsRow base e 1 (.slice (some ⟨g, 0, none⟩) n cap) n xs) (i : Nat) (u : Value) :
    (w.setCell ⟨g, i, none⟩ u).ownsRow base e 1 (.slice (some ⟨g, 0, none⟩) n cap) n (xs.set i u) := by
  obtain ⟨h1, h2⟩ := h
  rcases h2 with ⟨h2, _⟩ | ⟨g', cap', cur, h2, h3, h4, h5, h6, h7, h8⟩
  · cases h2
  · simp only [Value.slice.injEq, Option.some.injEq, Addr.mk.injEq, and_true, true_and] at h2
    obtain ⟨rfl, rfl⟩ := h2
    refine ⟨by rw [List.length_set]; exact h1, .inr ⟨g, cap, cur.setIfInBounds i u, rfl, h3, heap_setCell_same w g i cur e u h4, h5, h6, by rw [Array.size_setIfInBounds]; exact h7, ?_⟩⟩
    rw [Array.toList_setIfInBounds, List.take_set, h8]

set_option maxHeartbeats 1000000 in
theorem qSwapI_any (w : World) (sb g i j n ic : Nat) (xi xj : Int) (h4 : w.cell? ⟨sb, 2, none⟩ = some (.slice (some ⟨g, 0, none⟩) n ic))
    (hi : i < n) (hj : j < n) (hij : i ≠ j) (ci : w.cell? ⟨g, i, none⟩ = some (.int .i64 xi)) (cj : w.cell? ⟨g, j, none⟩ = some (.int .i64 xj)) (fi : w.frozen? ⟨g, i, none⟩ = false) (fj : w.frozen? ⟨g, j, none⟩ = false) (hgt : sb ≠ g) :
    Calls Tryd.prog 97 #[.pointer (some ⟨sb, 2, none⟩), .int .i64 i, .int .i64 j] w fun e w' => e = .returned (.tuple #[]) ∧ ∃ m, w' = ((w.setCell ⟨g, i, none⟩ (.int .i64 xj)).setCell ⟨g, j, none⟩ (.int .i64 xi)).drewN m := by
  have hiI : (i : Int) < (n : Int) := by omega
  have hjI : (j : Int) < (n : Int) := by omega
  go_enter Tryd.func97, Tryd.ntmps97
  go_wp2_with fail
  go_region
  go_wp2_with fail
  go_end0
  exact ⟨rfl, 1, rfl⟩

/-- Two places swapped. -/
theorem QI.swap {w : World} {lo sb g n cap : Nat} {xs : List Nat} (Q : QI w lo sb (.slice (some ⟨g, 0, none⟩) n cap) xs) (hn : xs.length = n) {i j : Nat} (m : Nat) :
    QI (((w.setCell ⟨g, i, none⟩ (.int .i64 (xs.getD j 0 : Nat))).setCell ⟨g, j, none⟩ (.int .i64 (xs.getD i 0 : Nat))).drewN m) lo sb (.slice (some ⟨g, 0, none⟩) n cap) ((xs.set i (xs.getD j 0)).set j (xs.getD i 0)) ∧
    QFr sb (.slice (some ⟨g, 0, none⟩) n cap) w (((w.setCell ⟨g, i, none⟩ (.int .i64 (xs.getD j 0 : Nat))).setCell ⟨g, j, none⟩ (.int .i64 (xs.getD i 0 : Nat))).drewN m) := by
  have hgs : g ≠ sb := fun e => Q.ne (by rw [e]; rfl)
  have hz : (((w.setCell ⟨g, i, none⟩ (.int .i64 (xs.getD j 0 : Nat))).setCell ⟨g, j, none⟩ (.int .i64 (xs.getD i 0 : Nat))).drewN m).heap.size = w.heap.size := by
    show ((w.setCell ⟨g, i, none⟩ (.int .i64 (xs.getD j 0 : Nat))).setCell ⟨g, j, none⟩ (.int .i64 (xs.getD i 0 : Nat))).heap.size = _
    simp [World.setCell]
  have hc : ∀ k, (((w.setCell ⟨g, i, none⟩ (.int .i64 (xs.getD j 0 : Nat))).setCell ⟨g, j, none⟩ (.int .i64 (xs.getD i 0 : Nat))).drewN m).cell? ⟨sb, k, none⟩ = w.cell? ⟨sb, k, none⟩ := fun k => by
    rw [World.cell?_drewN, World.cell?_setCell_other _ _ _ _ (by intro h; injection h with h2 _ _; omega), World.cell?_setCell_other _ _ _ _ (by intro h; injection h with h2 _ _; omega)]
  have hf : ∀ k, (((w.setCell ⟨g, i, none⟩ (.int .i64 (xs.getD j 0 : Nat))).setCell ⟨g, j, none⟩ (.int .i64 (xs.getD i 0 : Nat))).drewN m).frozen? ⟨sb, k, none⟩ = w.frozen? ⟨sb, k, none⟩ := fun k => by
    rw [World.frozen?_drewN, World.frozen?_setCell, World.frozen?_setCell]
  refine ⟨⟨(hc 2).trans Q.c2, (hf 2).trans Q.f2, (hc 3).trans Q.c3, ?_, Q.ne, ?_, ?_⟩, ⟨?_, ?_, ?_, ?_, fun k h1 h2 h3 => ?_, fun k _ => hc k, hf⟩⟩
  · have h0 := Q.ir
    rw [hn] at h0
    have h1 := rowI_set (rowI_set h0 i (.int .i64 (xs.getD j 0 : Nat))) j (.int .i64 (xs.getD i 0 : Nat))
    rw [List.length_set, List.length_set, hn, List.map_set, List.map_set]
    exact h1
  · exact hz ▸ Q.low
  · exact hz ▸ Q.lt
  · rfl
  · rfl
  · rfl
  · rw [hz]; exact Nat.le_refl _
  · have hk : k ≠ g := fun e => h3 (by rw [e]; rfl)
    show ((w.setCell ⟨g, i, none⟩ (.int .i64 (xs.getD j 0 : Nat))).setCell ⟨g, j, none⟩ (.int .i64 (xs.getD i 0 : Nat))).heap[k]? = _
    rw [Below.heap_setCell _ _ _ _ hk, Below.heap_setCell _ _ _ _ hk]

theorem QFr.below' {sb : Nat} {iv : Value} {w w1 w' : World} (h : QFr sb iv w w1) (hb : Below w1.heap.size w1 w') (hsb : sb < w1.heap.size) : QFr sb iv w w' :=
  ⟨hb.os.trans h.os, hb.tape.trans h.tape, hb.output.trans h.output, Nat.le_trans h.size hb.size, fun k h1 h2 h3 => (hb.block k (Nat.lt_of_lt_of_le h1 h.size)).trans (h.block k h1 h2 h3),
    fun j hj => (hb.cell (p := ⟨sb, j, none⟩) hsb).trans (h.cell j hj), fun j => (hb.frozen (p := ⟨sb, j, none⟩) hsb).trans (h.fz j)⟩
theorem QFr.refl (sb : Nat) (iv : Value) (w : World) : QFr sb iv w w := ⟨rfl, rfl, rfl, Nat.le_refl _, fun _ _ _ _ => rfl, fun _ _ => rfl, fun _ => rfl⟩
theorem QFr.trans {sb : Nat} {iv : Value} {w w1 w2 : World} (h : QFr sb iv w w1) (k : QFr sb iv w1 w2) : QFr sb iv w w2 :=
  ⟨k.os.trans h.os, k.tape.trans h.tape, k.output.trans h.output, Nat.le_trans h.size k.size, fun i h1 h2 h3 => (k.block i (Nat.lt_of_lt_of_le h1 h.size) h2 h3).trans (h.block i h1 h2 h3), fun j hj => (k.cell j hj).trans (h.cell j hj), fun j => (k.fz j).trans (h.fz j)⟩

set_option maxHeartbeats 4000000 in
theorem upIW_any (w : World) (lo sb g cap n j0 : Nat) (xs : List Nat) (Q : QI w lo sb (.slice (some ⟨g, 0, none⟩) n cap) xs) (hn : xs.length = n) (hj0 : j0 < n) (hn2 : n ≤ 1000) :
    Calls Tryd.prog 68 #[.iface 101 (.pointer (some ⟨sb, 2, none⟩)), .int .i64 j0] w fun e w' => e = .returned (.tuple #[]) ∧ ∃ ys, QI w' lo sb (.slice (some ⟨g, 0, none⟩) n cap) ys ∧ ys.length = n ∧ QFr sb (.slice (some ⟨g, 0, none⟩) n cap) w w' := by
  have HQ := hide Q
  have hgs : sb ≠ g := fun e => Q.ne (by rw [e]; rfl)
  clear Q
  go_enter Tryd.func68, Tryd.ntmps68
  go_wp2_with fail
  go_loopw [1] (fun y wr => ∃ (j : Nat) (ys : List Nat), j < n ∧ y = .int .i64 j ∧ Hid (QI wr lo sb (.slice (some ⟨g, 0, none⟩) n cap) ys ∧ ys.length = n ∧ QFr sb (.slice (some ⟨g, 0, none⟩) n cap) w wr)) (fun y _ => (intOf y).toNat)
  case atStart => exact ⟨j0, xs, hj0, rfl, HQ.out, hn, QFr.refl _ _ _⟩
  case round =>
    obtain ⟨j, ys, hj, rfl, HI⟩ := hrel
    clear HQ
    by_cases hj00 : j = 0
    · subst hj00
      go_wp2_with fail
      go_end0
      exact ⟨rfl, ys, HI.out⟩
    · obtain ⟨k, rfl⟩ : ∃ k, j = k + 1 := ⟨j - 1, by omega⟩
      have hlen := HI.out.2.1
      have hir := HI.out.1.ir
      rw [hlen] at hir
      have item : ∀ i, i < n → wr.cell? ⟨g, i, none⟩ = some (.int .i64 (ys.getD i 0 : Nat)) ∧ wr.frozen? ⟨g, i, none⟩ = false := fun i hi => by
        refine ⟨?_, ?_⟩
        · rw [hir.cellAt i (by omega), List.getElem?_map, List.getElem?_eq_getElem (by omega), List.getD_eq_getElem?_getD, List.getElem?_eq_getElem (by omega)]; rfl
        · rcases hir.2 with ⟨h2, _⟩ | ⟨g', cap', cur, h2, h3, h4, _⟩
          · cases h2
          · simp only [Value.slice.injEq, Option.some.injEq, Addr.mk.injEq, and_true, true_and] at h2
            obtain ⟨rfl, rfl⟩ := h2
            simp [World.frozen?, h4]
      obtain ⟨cj, fj⟩ := item (k + 1) hj
      obtain ⟨ci, fi⟩ := item (k / 2) (by omega)
      have hgl := hir.lt g rfl
      have HL := hide (qLessI_any wr sb g (k + 1) (k / 2) n cap _ _ HI.out.1.c2 HI.out.1.c3 hj (by omega) cj ci HI.out.1.lt hgl.2)
      have hq : (k : Int).tdiv 2 = ((k / 2 : Nat) : Int) := by rw [Int.tdiv_eq_ediv_of_nonneg (by omega)]; rfl
      have hne : (((k / 2 : Nat) : Int) == ((k : Int) + 1)) = false := by rw [beq_eq_false_iff_ne]; omega
      have hkk : k / 2 < k + 1 := by omega
      generalize hdb : decide (((ys.getD (k + 1) 0 : Nat) : Int) < ((ys.getD (k / 2) 0 : Nat) : Int)) = db at HL
      clear hdb item hir
      generalize hK : k / 2 = kk at *
      clear hK
      have hmL := mI_less (some ⟨sb, 2, none⟩)
      have hmS := mI_swap (some ⟨sb, 2, none⟩)
      cases db with
      | false =>
        go_wp2_with fail
        refine HL.out.mono ?_
        rintro e w1 ⟨rfl, hB1⟩
        have HT : Hid (QI w1 lo sb (.slice (some ⟨g, 0, none⟩) n cap) ys ∧ ys.length = n ∧ QFr sb (.slice (some ⟨g, 0, none⟩) n cap) w w1) := ⟨HI.out.1.below hB1, HI.out.2.1, HI.out.2.2.below' hB1 HI.out.1.lt⟩
        clear hB1
        go_wp2_with fail
        go_end0
        exact ⟨rfl, ys, HT.out⟩
      | true =>
        go_wp2_with fail
        refine HL.out.mono ?_
        rintro e w1 ⟨rfl, hB1⟩
        have HT : Hid (QI w1 lo sb (.slice (some ⟨g, 0, none⟩) n cap) ys ∧ ys.length = n ∧ QFr sb (.slice (some ⟨g, 0, none⟩) n cap) w w1) := ⟨HI.out.1.below hB1, HI.out.2.1, HI.out.2.2.below' hB1 HI.out.1.lt⟩
        have dj : w1.cell? ⟨g, k + 1, none⟩ = some (.int .i64 (ys.getD (k + 1) 0 : Nat)) := (hB1.cell (p := ⟨g, k + 1, none⟩) hgl.2).trans cj
        have di : w1.cell? ⟨g, kk, none⟩ = some (.int .i64 (ys.getD kk 0 : Nat)) := (hB1.cell (p := ⟨g, kk, none⟩) hgl.2).trans ci
        have gj : w1.frozen? ⟨g, k + 1, none⟩ = false := by rw [hB1.frozen (p := ⟨g, k + 1, none⟩) hgl.2]; exact fj
        have gi : w1.frozen? ⟨g, kk, none⟩ = false := by rw [hB1.frozen (p := ⟨g, kk, none⟩) hgl.2]; exact fi
        have HS := hide (qSwapI_any w1 sb g kk (k + 1) n cap _ _ HT.out.1.c2 (by omega) hj (by omega) di dj gi gj hgs)
        clear hB1 dj di gj gi ci cj fi fj HL HI
        go_wp2_with fail
        refine HS.out.mono ?_
        rintro e w2 ⟨rfl, m, rfl⟩
        have HQ2 := hide (HT.out.1.swap HT.out.2.1 (i := kk) (j := k + 1) m)
        have HL2 : Hid (((ys.set kk (ys.getD (k + 1) 0)).set (k + 1) (ys.getD kk 0)).length = n) := by show _ = _; rw [List.length_set, List.length_set]; exact HT.out.2.1
        have HB2 := hide (HT.out.2.2.trans HQ2.out.2)
        clear HS
        generalize (ys.set kk (ys.getD (k + 1) 0)).set (k + 1) (ys.getD kk 0) = zs at HQ2 HL2
        generalize ((w1.setCell ⟨g, kk, none⟩ (.int .i64 (ys.getD (k + 1) 0 : Nat))).setCell ⟨g, k + 1, none⟩ (.int .i64 (ys.getD kk 0 : Nat))).drewN m = w3 at HQ2 HB2 ⊢
        go_wp2_with fail
        go_roundw
        case rel => exact ⟨kk, zs, by omega, rfl, HQ2.out.1, HL2.out, HB2.out⟩
        case measure => simp [intOf]; omega

set_option maxHeartbeats 2000000 in
theorem qPutW_any (w : World) (lo sb : Nat) (iv : Value) (xs : List Nat) (x : Nat) (Q : QI w lo sb iv xs) (hn : xs.length ≤ 900) :
    Calls Tryd.prog 45 #[.pointer (some ⟨sb, 2, none⟩), .int .i64 x] w fun e w' => e = .returned (.tuple #[]) ∧ ∃ iv' ys, ys.length = xs.length + 1 ∧ QI w' lo sb iv' ys ∧ QFr sb iv w w' ∧ (iv'.ownBlock = iv.ownBlock ∨ ∃ g, iv'.ownBlock = some g ∧ w.heap.size ≤ g) := by
  have HP := hide (qPushI_any w lo sb xs.length iv _ x Q.c2 Q.f2 Q.ir Q.ne (by omega) Q.low Q.lt)
  have HQ := hide Q
  have hmP := mI_push (some ⟨sb, 2, none⟩)
  have hmL := mI_len (some ⟨sb, 2, none⟩)
  clear Q
  have HH : Hid (Calls Tryd.prog 56 #[.iface 101 (.pointer (some ⟨sb, 2, none⟩)), .iface 3 (.int .i64 (x : Int))] w fun e w' => e = .returned (.tuple #[]) ∧ ∃ iv' ys, ys.length = xs.length + 1 ∧ QI w' lo sb iv' ys ∧ QFr sb iv w w' ∧ (iv'.ownBlock = iv.ownBlock ∨ ∃ g, iv'.ownBlock = some g ∧ w.heap.size ≤ g)) := by
    show Calls _ _ _ _ _
    go_enter Tryd.func56, Tryd.ntmps56
    go_wp2_with fail
    refine HP.out.mono ?_
    rintro e w1' ⟨rfl, g, cap, w1, o, rfl, hir, hg, hat⟩
    have hne := HQ.out.ne
    have hlt := HQ.out.lt
    have hlow := HQ.out.low
    have hs1 : w.heap.size + 1 ≤ w1.heap.size := by have := hg.size; simpa using this
    have hgs : g ≠ sb := fun e => by
      rcases hat with h | h
      · exact hne (by rw [h, e])
      · simp at h; omega
    have hgl : g < w1.heap.size := (hir.lt g rfl).2
    have hbs : w1.heap[sb]? = w.heap[sb]? := by rw [hg.block sb (by simp; omega) (fun e => hne e.symm), Below.heap_alloc _ _ _ hlt]
    have HW2 : Hid (QI (w1.setCell ⟨sb, 2, none⟩ (.slice (some ⟨g, 0, none⟩) (xs.length + 1) cap)) lo sb (.slice (some ⟨g, 0, none⟩) (xs.length + 1) cap) (xs ++ [x]) ∧ QFr sb iv w (w1.setCell ⟨sb, 2, none⟩ (.slice (some ⟨g, 0, none⟩) (xs.length + 1) cap)) ∧ (some g = iv.ownBlock ∨ w.heap.size ≤ g)) := by
      refine ⟨⟨World.cell?_setCell_same' _ _ _ (by rw [World.cell?_of_block (w := w) hbs, HQ.out.c2]; rfl), by rw [World.frozen?_setCell, World.frozen?_of_block (w := w) hbs]; exact HQ.out.f2, ?_, ?_, fun e => ?_, by simp [World.setCell]; omega, by simp [World.setCell]; omega⟩, ⟨hg.os, hg.tape, hg.output, by simp [World.setCell]; omega, fun k h1 h2 h3 => ?_, fun j hj => ?_, fun j => ?_⟩, ?_⟩
      · rw [World.cell?_setCell_other _ _ _ _ (by intro h; injection h with _ h2 _; omega), World.cell?_of_block (w := w) hbs]; exact HQ.out.c3
      · have h0 : (xs ++ [x]).length = xs.length + 1 := by simp
        rw [h0, List.map_append]
        exact ownsRow_same hir fun g' hg' => Below.heap_setCell _ _ _ _ (fun e : g' = sb => by simp only [Value.ownBlock, Option.some.injEq] at hg'; omega)
      · simp only [Value.ownBlock, Option.some.injEq] at e; exact hgs e
      · rw [Below.heap_setCell _ _ _ _ h2, hg.block k (by simp; omega) (fun e => h3 e.symm), Below.heap_alloc _ _ _ h1]
      · rw [World.cell?_setCell_other _ _ _ _ (by intro h; injection h with _ h3 _; omega), World.cell?_of_block (w := w) hbs]
      · rw [World.frozen?_setCell, World.frozen?_of_block (w := w) hbs]
      · rcases hat with h | h
        · exact .inl h.symm
        · exact .inr (by simp at h; omega)
    generalize w1.setCell ⟨sb, 2, none⟩ (.slice (some ⟨g, 0, none⟩) (xs.length + 1) cap) = w2 at HW2 ⊢
    have hln : (xs ++ [x]).length = xs.length + 1 := by simp
    have HL := hide (qLenI_any w2 sb _ _ _ HW2.out.1.c2)
    have HU := hide (upIW_any w2 lo sb g cap (xs.length + 1) xs.length (xs ++ [x]) HW2.out.1 hln (by omega) (by omega))
    clear hir hg hat HP
    go_wp2_with fail
    refine HL.out.mono ?_
    rintro e w3 ⟨rfl, rfl⟩
    go_wp2_with fail
    refine HU.out.mono ?_
    rintro e w4 ⟨rfl, ys, hQ4, hy4, hF4⟩
    have HE : Hid (∃ iv' ys, ys.length = xs.length + 1 ∧ QI w4 lo sb iv' ys ∧ QFr sb iv w w4 ∧ (iv'.ownBlock = iv.ownBlock ∨ ∃ g, iv'.ownBlock = some g ∧ w.heap.size ≤ g)) := by
      have h2 := HW2.out.2.1
      refine ⟨_, ys, hy4, hQ4, ⟨hF4.os.trans h2.os, hF4.tape.trans h2.tape, hF4.output.trans h2.output, Nat.le_trans h2.size hF4.size, fun k h1 h3 h4 => (hF4.block k (Nat.lt_of_lt_of_le h1 h2.size) h3 (fun e => ?_)).trans (h2.block k h1 h3 h4), fun j hj => (hF4.cell j hj).trans (h2.cell j hj), fun j => (hF4.fz j).trans (h2.fz j)⟩, ?_⟩
      · simp only [Value.ownBlock, Option.some.injEq] at e
        rcases HW2.out.2.2 with h | h
        · exact h4 (by rw [← h, e])
        · omega
      · rcases HW2.out.2.2 with h | h
        · exact .inl h
        · exact .inr ⟨g, rfl, h⟩
    clear hQ4 hy4 hF4
    go_wp2_with fail
    go_end0
    exact ⟨rfl, HE.out⟩
  clear HP
  go_enter Tryd.func45, Tryd.ntmps45
  go_wp2_with fail
  refine HH.out.mono ?_
  rintro e w1 ⟨rfl, hT⟩
  have HT := hide hT
  clear hT
  go_wp2_with fail
  go_end0
  exact ⟨rfl, HT.out⟩

end Go.Proofs.YtnahpghbodmdbaaDoor
