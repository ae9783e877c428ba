/- The trail's queue: Len, Less, Swap, Push, as container/heap asks for them. -/
import Derived.Test.YtdonbgedhikocaaDoorTrieU
import Derived.Test.YtdonbgedhikocaaDoorDL
import Derived.BigRegion
import Derived.RegionTactic
import Derived.Deep.RegionLaw
import Derived.Deep.AppendLies
namespace Go.Proofs.YtdonbgedhikocaaDoor
open Go.RowKit

set_option maxHeartbeats 400000 in
theorem qLen_any (w : World) (tb : Nat) (ia : Option Addr) (n ic : Nat) (h : w.cell? ⟨tb, 4, none⟩ = some (.slice ia n ic)) :
    Calls Tryd.prog 102 #[.pointer (some ⟨tb, 4, none⟩)] w fun e w' => e = .returned (.int .i64 n) ∧ w' = w := by
  go_enter Tryd.func102, Tryd.ntmps102
  go_wp2_with fail
  go_ret
  exact ⟨rfl, rfl⟩

set_option maxHeartbeats 2000000 in
theorem qLess_any (w : World) (tb g i j n ic lo : Nat) (vi vj : Value) (li lj : List ByteArray) (h4 : w.cell? ⟨tb, 4, none⟩ = some (.slice (some ⟨g, 0, none⟩) n ic)) (h5 : w.cell? ⟨tb, 5, none⟩ = some (.func (.func 33) #[] #[]))
    (hi : i < n) (hj : j < n) (ci : w.cell? ⟨g, i, none⟩ = some vi) (cj : w.cell? ⟨g, j, none⟩ = some vj) (si : StrsAt w 0 lo vi li) (sj : StrsAt w 0 lo vj lj) (htb : tb < w.heap.size) (hg : g < w.heap.size) (hlo : lo ≤ w.heap.size) :
    Calls Tryd.prog 103 #[.pointer (some ⟨tb, 4, none⟩), .int .i64 i, .int .i64 j] w fun e w' => e = .returned (.bool (deepB li lj)) ∧ Below w.heap.size w w' := by
  have HD : Hid (∀ W, Below w.heap.size w W → Calls Tryd.prog 33 #[vi, vj] W fun e w' => e = .returned (.bool (deepB li lj)) ∧ Below w.heap.size w w') := fun W hW =>
    (deeper_any li lj vi vj W 0 lo 0 lo (si.keep hW hlo) (sj.keep hW hlo)).mono fun e w' ⟨h1, h2⟩ => ⟨h1, hW.trans (h2.mono hW.size)⟩
  have x4 : ∀ x : Wd (Below w.heap.size w), x.w.cell? ⟨tb, 4, none⟩ = some (.slice (some ⟨g, 0, none⟩) n ic) := fun x => below_cell x.h htb h4
  have x5 : ∀ x : Wd (Below w.heap.size w), x.w.cell? ⟨tb, 5, none⟩ = some (.func (.func 33) #[] #[]) := fun x => below_cell x.h htb h5
  have xi : ∀ x : Wd (Below w.heap.size w), x.w.cell? ⟨g, i, none⟩ = some vi := fun x => below_cell x.h hg ci
  have xj : ∀ x : Wd (Below w.heap.size w), x.w.cell? ⟨g, j, none⟩ = some vj := fun x => below_cell x.h hg cj
  have hne : Nonempty (Wd (Below w.heap.size w)) := ⟨⟨w, Below.refl _ _⟩⟩
  have hiI : (i : Int) < (n : Int) := by omega
  have hjI : (j : Int) < (n : Int) := by omega
  have HB : Hid (Below w.heap.size w w.drew) := (Below.refl _ _).drew
  clear h4 h5 ci cj si sj
  go_enter Tryd.func103, Tryd.ntmps103
  go_wp2_with fail
  refine wp_region_own (Below w.heap.size w) (by kernel_rfl) (by kernel_rfl) HB.out ?_
  repeat (go_big_quiet_step ((go_at_call 33; exact own_call (HD.out _ (Wd.h _)))))
  refine wpQuiet_nil ?_
  intro w1 hB1
  have HB1 := hide hB1
  clear hB1
  go_wp2_with fail
  go_ret
  exact ⟨rfl, HB1.out⟩

set_option maxHeartbeats 2000000 in
theorem qSwap_any (w : World) (tb g i j n ic : Nat) (ai aj : Option Addr) (ni nj ki kj : Nat) (h4 : w.cell? ⟨tb, 4, none⟩ = some (.slice (some ⟨g, 0, none⟩) n ic))
    (hi : i < n) (hj : j < n) (hij : i ≠ j) (ci : w.cell? ⟨g, i, none⟩ = some (.slice ai ni ki)) (cj : w.cell? ⟨g, j, none⟩ = some (.slice aj nj kj)) (fi : w.frozen? ⟨g, i, none⟩ = false) (fj : w.frozen? ⟨g, j, none⟩ = false) (hgt : tb ≠ g) :
    Calls Tryd.prog 105 #[.pointer (some ⟨tb, 4, none⟩), .int .i64 i, .int .i64 j] w fun e w' => e = .returned (.tuple #[]) ∧ ∃ m, w' = ((w.setCell ⟨g, i, none⟩ (.slice aj nj kj)).setCell ⟨g, j, none⟩ (.slice ai ni ki)).drewN m := by
  have hiI : (i : Int) < (n : Int) := by omega
  have hjI : (j : Int) < (n : Int) := by omega
  go_enter Tryd.func105, Tryd.ntmps105
  go_wp2_with fail
  go_region
  go_wp2_with fail
  go_end0
  exact ⟨rfl, 1, rfl⟩

theorem info_L : ∃ i, Tryd.prog.info? 28 = some i ∧ i.zero = some (.slice none 0 0) ∧ i.size = 1 ∧ i.bytes = 24 := by
  obtain ⟨i, hi, h⟩ := Option.map_eq_some_iff.1 (show (Tryd.prog.info? 28).map (fun i => (i.zero, i.size, i.bytes)) = some (some (.slice none 0 0), 1, 24) by kernel_rfl)
  simp only [Prod.mk.injEq] at h
  exact ⟨i, hi, h.1, h.2.1, h.2.2⟩
theorem ta_path (a : Option Addr) (n c : Nat) (w : World) : Sem.run Tryd.prog (Instr.typeAssert (.iface 28 (.slice a n c)) 20 28 false) w = .ok (.slice a n c) w := by kernel_rfl

set_option maxHeartbeats 2000000 in
theorem qPush_any (w : World) (lo tb n : Nat) (iv : Value) (items : List Value) (xa : Option Addr) (xn xc : Nat) (h4 : w.cell? ⟨tb, 4, none⟩ = some iv) (f4 : w.frozen? ⟨tb, 4, none⟩ = false) (hir : w.ownsRow lo 28 1 iv n items) (hne : iv.ownBlock ≠ some tb) (hn : n ≤ 1000) (hlo : lo ≤ w.heap.size) (htb : tb < w.heap.size) :
    Calls Tryd.prog 104 #[.pointer (some ⟨tb, 4, none⟩), .iface 28 (.slice xa xn xc)] w fun e w' => e = .returned (.tuple #[]) ∧ ∃ g cap w1 o, w' = w1.setCell ⟨tb, 4, none⟩ (.slice (some ⟨g, 0, none⟩) (n + 1) cap) ∧
      w1.ownsRow lo 28 1 (.slice (some ⟨g, 0, none⟩) (n + 1) cap) (n + 1) (items ++ [.slice xa xn xc]) ∧ (w.alloc o).grownBy w1 iv.ownBlock ∧ (iv.ownBlock = some g ∨ g = (w.alloc o).heap.size) := by
  obtain ⟨iS, hiS', hzS, hsS, hbS⟩ := info_L
  have hiS := hide hiS'
  clear hiS'
  have HOwn := hide hir
  have HNe := hide hne
  have hta := ta_path xa xn xc
  clear hir hne
  go_enter Tryd.func104, Tryd.ntmps104
  go_wp2_with fail
  go_region_law (first
    | (refine step_append_lies _ rfl (.tmp 8) (.tmp 11) 57 rfl lo 28 iS (.slice none 0 0) 1 24 Tryd.underlying57 hiS.out hzS hsS hbS rfl (by decide) iv n items (by simp [Act.eval]) (HOwn.out.alloc _) ⟨w.heap.size, 0, none⟩ 1 1 [.slice xa xn xc] (by simp [Act.eval]) rfl (World.news_of_block (heap_alloc_new w _)) (by simp [Value.oneCell']) (by omega) (by unfold maxLen; omega) (by omega) (by simp; omega) _ rfl ?_
       intro g cap w1 hown hgrow hat hgl
       have HOWN := hide hown
       have HGROW := hide hgrow
       have HAT := hide hat
       have hbt : w1.heap[tb]? = w.heap[tb]? := by rw [hgrow.block tb (by simp; omega) (fun e => HNe.out e.symm)]; exact Below.heap_alloc _ _ _ htb
       have z4 : w1.cell? ⟨tb, 4, none⟩ = some iv := by rw [World.cell?_of_block (w := w) hbt]; exact h4
       have z4f : w1.frozen? ⟨tb, 4, none⟩ = false := by rw [World.frozen?_of_block (w := w) hbt]; exact f4
       clear hown hgrow hat hbt)
    | fail)
  all_goals
    go_wp2_with fail
    go_end0
    exact ⟨rfl, g, cap, w1, _, rfl, HOWN.out, ⟨HGROW.out.os, HGROW.out.tape, HGROW.out.output, HGROW.out.size, HGROW.out.block⟩, HAT.out⟩

end Go.Proofs.YtdonbgedhikocaaDoor
