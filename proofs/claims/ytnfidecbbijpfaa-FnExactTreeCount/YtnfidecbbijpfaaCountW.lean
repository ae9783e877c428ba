/- The program's TreeCount, over a walk of the parts. -/
import Derived.RangeFuncNested
import Derived.RangeFuncBound
import Derived.RangeFuncCalls
import Derived.RangeFuncLeaves
import Derived.Shelf.Abstract
import Derived.WalkKit
import Derived.OwnWalkIn
import Derived.TacticsInMore
import Derived.LoopIn
import Derived.Test.YtnfidecbbijpfaaProg
import Derived.Test.YtnfidecbbijpfaaWalkD
namespace Go.Proofs.Ytnfidecbbijpfaa
open Go.RowKit Go.Shelf
attribute [local go_sem] Oper.semAt_some

theorem yield_any {m : Nat} (m' : Nat) {P : Program} {l : Nat} {args : Array Value} {W : World} {R : Ending → World → Prop} (h : YieldAt Fence.wide m P l args W R) : YieldAt Fence.wide m' P l args W R := by
  obtain ⟨fn, tmps, assign, body, hy, hR⟩ := h
  exact ⟨fn, tmps, assign, body, hy, hR.1, fun c cs _ => hR.2 c cs (room_wide _)⟩

theorem wide_room (k : Nat) : Fence.wide.depth.isSome = true → 1 ≤ k := fun h => by cases h

set_option maxHeartbeats 1000000 in
theorem parts1_in (hWalk : WalkAll) (n l n0 cb N Bt : Nat) (J Jx : List Yv → World → Prop) (hcb : n0 ≤ cb) (hJ : ∀ s A B, J s A → Below A.heap.size A B → J s B) (hY : YieldC l n0 cb N J Jx)
    (k : Nat) (t : T k) (v : Value) (W : World) (lo hi : Nat) (hg : AllGood k t) (hp : PRep W lo hi k t v) (hhi : hi ≤ n0) (hsm : countT k t ≤ 1048576) (hsz : cb < W.heap.size) (h0 : J [] W) (hN : countT k t + 1 ≤ N) (hBt : W.cell? ⟨Bt, 0, none⟩ = some v) :
    CallsIn Fence.wide n Try.prog 38 #[.func (.yield l) #[] #[], .pointer (some ⟨Bt, 0, none⟩)] W fun e W' => (∃ v, e = .returned v) ∧
      ((∃ ys, numY ys = countT k t ∧ J ys W') ∨ (∃ pre, True ∧ Jx pre W')) := by
  have hp1 := hWalk l n0 cb N J Jx hcb hJ hY k t v [] (.slice none 0 0) [] W lo hi W.heap.size hg hp hhi ⟨none, 0, rfl, by simp, fun i h => by simp at h, fun h => by simp at h⟩ (Nat.le_refl _) (by simpa using hsm) hsz h0 (by simpa using hN)
  obtain ⟨pu, pb, rfl⟩ := hp.form
  have HP := hide hp1
  clear hp1 hp hg hJ hY
  refine callsIn_of_wp Try.func38 rfl trivial ?_ rfl
  simp only [Try.ntmps38, List.size_toArray, List.length_cons, List.length_nil, Nat.reduceAdd, Nat.reduceSub, Array.replicate_succ, Array.replicate_zero, List.push_toArray, List.append_toArray, List.nil_append, List.cons_append]
  gi_wp2_with (refine ⟨trivial, wide_room _, ?_⟩; gi_at_call 39; refine (callsIn_wide.2 HP.out).mono ?_; clear HP; rintro e W1 (⟨rfl, ys, hJ1, h2, h3, h4⟩ | ⟨rfl, q, hx⟩))
  · go_end0
    exact ⟨⟨_, rfl⟩, .inl ⟨ys, by simpa using h3, by simpa using hJ1⟩⟩
  · go_end0
    exact ⟨⟨_, rfl⟩, .inr ⟨q, trivial, by simpa using hx⟩⟩

set_option maxHeartbeats 1000000 in
theorem parts_in (n : Nat) (u b : Nat) (w : World) :
    CallsIn Fence.wide n Try.prog 27 #[.iface u (.pointer (some ⟨b, 0, none⟩))] w fun e w' => e = .returned (.func (.func 38) #[] #[.pointer (some ⟨w.heap.size, 0, none⟩)]) ∧ w' = w.alloc (.cells #[.iface u (.pointer (some ⟨b, 0, none⟩))] 54) := by
  refine callsIn_of_wp Try.func27 rfl trivial ?_ rfl
  simp only [Try.ntmps27, List.size_toArray, List.length_cons, List.length_nil, Nat.reduceAdd, Nat.reduceSub, Array.replicate_succ, Array.replicate_zero, List.push_toArray, List.append_toArray, List.nil_append, List.cons_append]
  gi_wp2
  go_ret
  exact ⟨rfl, rfl⟩

theorem grown_of_below {A B : World} (h : Below A.heap.size A B) : A.grownBy B none := ⟨h.os, h.tape, h.output, h.size, fun k hk _ => h.block k hk⟩

theorem parts_stops (hWalk : WalkAll) (n n0 cb Bt : Nat) (k : Nat) (t : T k) (v : Value) (w : World) (lo hi : Nat) (hcb : n0 ≤ cb) (hg : AllGood k t) (hp : PRep w lo hi k t v) (hhi : hi ≤ n0) (hsm : countT k t ≤ 1048576) (hsz : cb < w.heap.size) (hBt : Bt < w.heap.size) (hc : w.cell? ⟨Bt, 0, none⟩ = some v) :
    SeqStopsK Fence.wide n Try.prog 38 #[.pointer (some ⟨Bt, 0, none⟩)] Yv.encs (Kp n0 cb) (fun ys => numY ys = countT k t) (fun _ => True) (countT k t + 1) w := fun l J Jx W hW hJ _ hY h0 =>
  parts1_in hWalk n l n0 cb (countT k t + 1) Bt J Jx hcb (fun s A B hs hb => hJ s A B none hs (grown_of_below hb) (fun r e => by cases e)) (fun m pre x W1 h1 h2 => yield_any m (hY pre x W1 h1 h2)) k t v W lo hi hg (PRep.same (sameIn_below hW (by omega)) k _ _ hp) hhi hsm (Nat.lt_of_lt_of_le hsz hW.size) h0 (Nat.le_refl _) ((hW.cell (p := ⟨Bt, 0, none⟩) hBt).trans hc)

theorem numY_snoc (pre : List Yv) (x : Yv) : numY (pre ++ [x]) = numY pre + if 0 < x.2.1 then 1 else 0 := by
  rw [numY_append]
  congr 1
  unfold numY
  by_cases h0 : 0 < x.2.1 <;> simp [h0]

set_option maxRecDepth 100000 in
set_option maxHeartbeats 4000000 in
theorem implCount_yes (hWalk : WalkAll) (n : Nat) (t : T (n + 1)) (nv kv : Value) (w : World) (lo hi : Nat) (hrep : Rep w lo hi (n + 1) t nv kv) (hhi : hi ≤ w.heap.size) (hok : okT (n + 1) t = true) :
    Calls Try.prog 12 #[aggT (n + 1) t nv kv] w fun e w' => e = .returned (.int .i64 (countT (n + 1) t : Int)) ∧ Below w.heap.size w w' := by
  obtain ⟨va, vm, vc, ua, um, uc, rfl, rfl⟩ := hrep.slices
  have hcnt : countT (n + 1) t ≤ 30 := by
    have h' : (t.dir && partsB (n + 1) t 0 && decide (countT (n + 1) t ≤ 30)) = true := hok
    rw [Bool.and_eq_true] at h'
    exact of_decide_eq_true h'.2
  have hdir : t.dir = true := by
    have h' : (t.dir && partsB (n + 1) t 0 && decide (countT (n + 1) t ≤ 30)) = true := hok
    rw [Bool.and_eq_true, Bool.and_eq_true] at h'
    exact h'.1.1
  have HC : Hid (∀ (W : World), Below w.heap.size w W → Calls Try.prog 25 #[.agg #[.bool (headT (n + 1) t).1, .int .i64 (headT (n + 1) t).2.1, .string (headT (n + 1) t).2.2, .slice va vm vc, .slice ua um uc]] W fun e w' => ∃ b, e = .returned (.tuple #[.pointer (some ⟨b, 0, none⟩), .bool true]) ∧ Below w.heap.size w w' ∧ PRep w' w.heap.size w'.heap.size (n + 1) t (.iface 45 (.pointer (some ⟨b, 0, none⟩)))) := fun W hb => by
    refine (rootOf_any (n + 1) t _ _ W lo hi (Rep.keep hb hhi _ _ _ _ hrep) (Nat.le_trans hhi hb.size)).mono ?_
    rintro e w' ⟨po, rfl, h2, h3⟩
    obtain ⟨b, rfl, h4⟩ := h3 hok
    refine ⟨b, by rw [hok], hb.trans (h2.mono hb.size), .inr ⟨hdir, b, rfl, ?_⟩⟩
    exact DRep.wide h4 (PRep.wide hb.size (Nat.le_refl _) n) hb.size (Nat.le_refl _)
  have HG : Hid (AllGood (n + 1) t) := allGood_of_ok (n + 1) t hok
  clear hrep hok hdir
  have HA : Hid (∀ o, Below w.heap.size w (w.alloc o)) := fun o => (Below.refl _ _).alloc (Nat.le_refl _) o
  show Calls Try.prog 12 #[.agg #[.bool (headT (n + 1) t).1, .int .i64 (headT (n + 1) t).2.1, .string (headT (n + 1) t).2.2, .slice va vm vc, .slice ua um uc]] w _
  generalize (headT (n + 1) t).1 = hd at HC ⊢
  generalize (headT (n + 1) t).2.1 = hm at HC ⊢
  generalize (headT (n + 1) t).2.2 = hda at HC ⊢
  refine (callsIn_wide (n := 9)).1 ?_
  refine callsIn_of_wp_marks Try.func12 rfl trivial ?_ rfl
  simp only [Try.ntmps12, List.size_toArray, List.length_cons, List.length_nil, Nat.reduceAdd, Nat.reduceSub, Array.replicate_succ, Array.replicate_zero, List.push_toArray, List.append_toArray, List.nil_append, List.cons_append]
  gi_wp2_with (first
    | (refine ⟨trivial, ?_⟩
       gi_at_call 25
       refine (callsIn_wide.2 (HC.out _ (HA.out _))).mono ?_
       rintro e w1 ⟨b, rfl, hb1, hp1⟩
       have HB1 := hide hb1
       have HP1 := hide hp1
       clear hb1 hp1)
    | (refine ⟨trivial, ?_⟩
       gi_at_call 27
       refine (parts_in _ _ _ _).mono ?_
       rintro e w' ⟨rfl, rfl⟩))
  have hs : Blk (w1.alloc (.cells #[.int .i64 0] 3)) w1.heap.size #[.int .i64 0] 3 := Blk.new w1 _ _
  have hs2 := hs.alloc (.cells #[.iface 45 (.pointer (some ⟨b, 0, none⟩))] 54)
  have hb2 := Blk.new (w1.alloc (.cells #[.int .i64 0] 3)) #[.iface 45 (.pointer (some ⟨b, 0, none⟩))] 54
  rw [World.size_alloc] at hb2
  have hB0 : Below w1.heap.size w1 ((w1.alloc (.cells #[.int .i64 0] 3)).alloc (.cells #[.iface 45 (.pointer (some ⟨b, 0, none⟩))] 54)) := ((Below.refl _ w1).alloc (Nat.le_refl _) _).alloc (by simp) _
  have hBw : Below w.heap.size w ((w1.alloc (.cells #[.int .i64 0] 3)).alloc (.cells #[.iface 45 (.pointer (some ⟨b, 0, none⟩))] 54)) := HB1.out.trans (hB0.mono HB1.out.size)
  have hws := HB1.out.size
  refine wpIn_rangeFunc_ownF rfl (by omega) (gf := 38) (lb := #[.pointer (some ⟨w1.heap.size + 1, 0, none⟩)]) rfl trivial (enters_of Try.func38 (by kernel_rfl) rfl)
    (parts_stops hWalk _ w1.heap.size w1.heap.size (w1.heap.size + 1) (n + 1) t _ _ w.heap.size w1.heap.size (Nat.le_refl _) HG.out (PRep.same (sameIn_below hB0 (Nat.le_refl _)) _ _ _ HP1.out) (Nat.le_refl _) (by omega) (by simp; omega) (by simp) (hb2.cell 0 _ rfl)) (fun h k => h.trans k) (Kp.putObj (by simp; omega)) (Below.refl _ _) (fun _ => rfl)
    (fun pre W => (W.cell? ⟨w1.heap.size, 0, none⟩ = some (.int .i64 (numY pre : Int)) ∧ W.frozen? ⟨w1.heap.size, 0, none⟩ = false) ∧ Below w.heap.size w W)
    (fun _ _ _ => False)
    (OwnFrom.and (Own.from (fun s A B row hs hg hr => ⟨cell_kept hs.1 hg hr, (frozen_kept hs.1 hg hr).trans hs.2⟩) _) (ownFrom_below (Nat.le_refl _) (by simp; omega)))
    (fun _ _ _ _ _ hs _ _ => hs)
    ⟨⟨hs2.cell 0 _ rfl, hs2.frozen 0⟩, hBw⟩
    (fun x => { tmps := #[.agg #[.bool hd, .int .i64 hm, .string hda, .slice va vm vc, .slice ua um uc], .pointer (some ⟨w.heap.size, 0, none⟩), .int .i64 0, .pointer (some ⟨b, 0, none⟩), .bool true, .pointer (some ⟨w1.heap.size, 0, none⟩), .slice x.1 x.2.1 x.2.2.1, .tuple #[.pointer (some ⟨b, 0, none⟩), .bool true], .agg #[.bool hd, .int .i64 hm, .string hda, .slice va vm vc, .slice ua um uc], .tuple #[.pointer (some ⟨b, 0, none⟩), .bool true], .pointer (some ⟨b, 0, none⟩), .bool true, .bool true, .bool false, .pointer (some ⟨b, 0, none⟩), .iface 45 (.pointer (some ⟨b, 0, none⟩)), .func (.func 38) #[] #[.pointer (some ⟨w1.heap.size + 1, 0, none⟩)], .slice x.1 x.2.1 x.2.2.1, x.2.2.2, undef, undef, undef, undef, undef, undef], defers := [] }) ?assign ?body ?done ?stop
  case assign =>
    rintro l ⟨xa, xl, xc, xv⟩ W K hK
    dsimp only [Yv.encs]
    gi_wp2
    exact hK
  case body =>
    rintro l pre ⟨xa, xl, xc, xv⟩ W ⟨⟨hc, hf⟩, hB⟩ hlen
    have hnum : numY pre ≤ pre.length := List.countP_le_length
    have hsn := numY_snoc pre (xa, xl, xc, xv)
    have HSn := hide hsn
    clear hsn hs hs2 hb2 hB0 hBw
    gi_wp2
    · rename_i hx
      refine ⟨KeepsOthers.setCell _ _ _, Kp.setCell (Nat.le_refl _) W 0 _, ⟨?_, by rw [World.frozen?_setCell]; exact hf⟩, hB.setCell (p := ⟨w1.heap.size, 0, none⟩) hws _⟩
      rw [HSn.out, if_pos (by show 0 < xl; omega)]
      exact World.cell?_setCell_same' _ _ _ (by rw [hc]; rfl)
    · rename_i hx
      refine ⟨KeepsOthers.refl _, Kp.refl _ _ _, ⟨?_, hf⟩, hB⟩
      rw [HSn.out, if_neg (by show ¬ 0 < xl; omega)]
      exact hc
  case done =>
    rintro D ys W hD hS ⟨⟨hc, _⟩, hB⟩ hK
    gi_wp2
    refine ⟨by simp, .inl ⟨_, _, rfl, run_takeDeferred hK, ?_⟩⟩
    exact ⟨_, results_tmp rfl _ _ _, rfl, hB.trans (belowK_b (w := w) (Nat.le_refl _) W D _ _ (by simp at hD; omega) hK rfl rfl)⟩
  case stop =>
    rintro D c pre W _ _ h _
    exact h.elim

end Go.Proofs.Ytnfidecbbijpfaa
