/- The program's writesOf: the iterator's contract. -/
import Derived.Test.YtbimfljllclgfaaDwP
import Derived.Test.YtbimfljllclgfaaRf
import Derived.Shelf.Abstract
import Derived.OwnWalkIn
import Derived.TacticsInMore
import Derived.LoopIn
import Derived.Lib.OthersKept
import Derived.Maps.OwnIn
namespace Go.Proofs.Ytbimfljllclgfaa
open Go.RowKit Go.Shelf
attribute [local go_sem] Oper.semAt_some

theorem cut_int (n : Nat) (cut : Int) : min (max cut 0) (n : Int) = ((cutN n cut : Nat) : Int) := by
  unfold cutN
  omega

set_option maxHeartbeats 1000000 in
theorem writesOf_any (rb rc n : Nat) (cut : Int) (w : World) (hn : n ≤ rc) (hc : rc ≤ 1048576) :
    Calls Try.prog 24 #[.slice (some ⟨rb, 0, none⟩) n rc, .int .i64 cut] w fun e w' => e = .returned (.func (.func 32) #[] #[.pointer (some ⟨w.heap.size, 0, none⟩)]) ∧ w' = w.alloc (.cells #[.slice (some ⟨rb, 0, none⟩) (cutN n cut) rc] 31) := by
  have HM := hide (cut_int n cut)
  have h1 : cutN n cut ≤ n := Nat.min_le_right _ _
  go_enter Try.func24, Try.ntmps24
  go_wp2
  all_goals
    go_ret
    refine ⟨rfl, ?_⟩
    first
    | rw [show cutN n cut = 0 from by unfold cutN; omega]
    | rw [show cutN n cut = n from by unfold cutN; omega]
    | rw [show cutN n cut = cut.toNat from by unfold cutN; omega]

def Rw.encs (x : Rw) : Array Value := #[.int .i64 x.pos, .string x.data]

/-- Between two rounds of the iterator. -/
structure WoI (rs : List Rw) (Bt rb rc : Nat) (W : World) (J : List Rw → (Nat → Prop) → World → Prop) (k : Nat) (wr : World) (C1 : Nat → Prop) : Prop where
  inv : J ((rs.take k).filter rawB) C1 wr
  cs : ∀ j, C1 j → j < wr.heap.size ∧ j ≠ Bt ∧ j ≠ rb
  size : W.heap.size ≤ wr.heap.size
  cells : ∀ (i : Nat) (h : i < rs.length), wr.cell? ⟨rb, i * 2, none⟩ = some (.int .i64 rs[i].pos) ∧ wr.cell? ⟨rb, i * 2 + 1, none⟩ = some (.string rs[i].data)

theorem filt_no (rs : List Rw) (k : Nat) (h : k < rs.length) (hr : rawB rs[k] = false) : (rs.take (k + 1)).filter rawB = (rs.take k).filter rawB := by
  rw [take_next rs k h, List.filter_append, List.filter_cons_of_neg (by simp [hr]), List.filter_nil, List.append_nil]
theorem filt_yes (rs : List Rw) (k : Nat) (h : k < rs.length) (hr : rawB rs[k] = true) : (rs.take (k + 1)).filter rawB = (rs.take k).filter rawB ++ [rs[k]] := by
  rw [take_next rs k h, List.filter_append, List.filter_cons_of_pos hr, List.filter_nil]

set_option maxRecDepth 100000 in
set_option maxHeartbeats 4000000 in
theorem wo_seq (rs : List Rw) (Bt rb rc : Nat) (w : World) (hl : rs.length ≤ 1048576) (hbr : rb < w.heap.size) (hsz : ∀ (i : Nat) (h : i < rs.length), rs[i].data.size ≤ maxLen)
    (hc : w.cell? ⟨Bt, 0, none⟩ = some (.slice (some ⟨rb, 0, none⟩) rs.length rc)) (hcells : ∀ (i : Nat) (h : i < rs.length), w.cell? ⟨rb, i * 2, none⟩ = some (.int .i64 rs[i].pos) ∧ w.cell? ⟨rb, i * 2 + 1, none⟩ = some (.string rs[i].data)) :
    SeqC Try.prog 32 #[.pointer (some ⟨Bt, 0, none⟩)] Rw.encs (fun k => k = Bt ∨ k = rb) (fun _ x _ _ => rawB x = true) (fun xs => xs = rs.filter rawB) (fun _ => True) w := by
  intro n l J Jx C W hW hD hC hJ hJx hY h0
  have hBw : Bt < w.heap.size := World.block_lt_of_cell? _ _ hc
  have hbox : W.cell? ⟨Bt, 0, none⟩ = some (.slice (some ⟨rb, 0, none⟩) rs.length rc) := (hW.cell (p := ⟨Bt, 0, none⟩) hBw).trans hc
  have HZ : Hid (w.heap.size ≤ W.heap.size) := hW.size
  have HJ := hide hJ
  have HY := hide hY
  have HSz := hide hsz
  have HST : Hid (WoI rs Bt rb rc W J 0 W C) := ⟨h0, fun j hj => ⟨hC j hj, fun e => hD j (.inl e) hj, fun e => hD j (.inr e) hj⟩, Nat.le_refl _, fun i hi => by
    rw [hW.cell (p := ⟨rb, i * 2, none⟩) hbr, hW.cell (p := ⟨rb, i * 2 + 1, none⟩) hbr]; exact hcells i hi⟩
  clear hJ hJx hY h0 hD hC hc hW hsz hcells
  show CallsIn Fence.wide n Try.prog 32 #[.func (.yield l) #[] #[], .pointer (some ⟨Bt, 0, none⟩)] W _
  refine callsIn_of_wp Try.func32 rfl trivial ?_ rfl
  simp only [Try.ntmps32, List.size_toArray, List.length_cons, List.length_nil, Nat.reduceAdd, Nat.reduceSub, Array.replicate_succ, Array.replicate_zero, List.push_toArray, List.append_toArray, List.nil_append, List.cons_append]
  gi_wp2
  gi_loopw [8] (fun i wr => ∃ (k : Nat) (C1 : Nat → Prop), k ≤ rs.length ∧ i = .int .i64 k ∧ Hid (WoI rs Bt rb rc W J k wr C1)) (fun i _ => rs.length - (intOf i).toNat)
  case atStart => exact ⟨0, C, Nat.zero_le _, rfl, HST⟩
  case round =>
    obtain ⟨k, C1, hk, rfl, HS⟩ := hrel
    clear HST hbox
    by_cases hlt : k < rs.length
    · obtain ⟨c0, c1⟩ := HS.out.cells k hlt
      have hltI : (k : Int) < (rs.length : Int) := by omega
      have hrbw : rb < wr.heap.size := Nat.lt_of_lt_of_le hbr (Nat.le_trans HZ.out HS.out.size)
      have HG := hide (fun V => goesTo_any rs[k] V (HSz.out k hlt))
      have HJ1 : Hid (∀ o, J ((rs.take k).filter rawB) C1 (wr.alloc o)) := fun o => HJ.out _ _ _ _ HS.out.inv (Kept.of_new ((Below.refl _ _).alloc (Nat.le_refl _) o))
      cases hrw : rawB rs[k] with
      | false =>
        rw [hrw] at HG
        gi_wp2_with (refine ⟨trivial, wide_room _, ?_⟩; gi_at_call 33; refine (callsIn_wide.2 (HG.out _)).mono ?_; rintro e w1 ⟨rfl, rfl⟩)
        refine ⟨fun f h => (by cases h), ?_⟩
        gi_wp2
        go_roundw
        case rel =>
          refine ⟨k + 1, C1, by omega, by go_num, ?_⟩
          refine ⟨by rw [filt_no rs k hlt hrw]; exact HJ1.out _, fun j hj => ⟨by have := (HS.out.cs j hj).1; simp; omega, (HS.out.cs j hj).2⟩, by have := HS.out.size; simp; omega, fun i hi => ?_⟩
          rw [World.cell?_alloc_old _ _ _ (by show rb ≠ _; omega), World.cell?_alloc_old _ _ _ (by show rb ≠ _; omega)]
          exact HS.out.cells i hi
        case measure => simp [intOf]; omega
      | true =>
        rw [hrw] at HG
        obtain ⟨fn, tmps, assign, body, hy, hR⟩ := yield_any (n - 1) (HY.out ((rs.take k).filter rawB) rs[k] C1 (wr.alloc (.cells #[.int .i64 rs[k].pos, .string rs[k].data] 45)) (HJ1.out _) hrw (fun j hj => by have := (HS.out.cs j hj).1; simp; omega))
        simp only [Rw.encs] at hy
        have HR3 := hide hR
        clear hR
        gi_wp2_with (refine ⟨trivial, wide_room _, ?_⟩; gi_at_call 33; refine (callsIn_wide.2 (HG.out _)).mono ?_; rintro e w1 ⟨rfl, rfl⟩)
        refine ⟨wide_room _, HR3.out.mono ?_⟩
        rintro e W' (⟨rfl, C2, hj, hkp, hc1, hc2⟩ | ⟨rfl, C2, hj, _, _, _⟩)
        · have HJ' := hide hj
          have HK' := hide hkp
          have HC' := hide (And.intro hc1 hc2)
          clear hj hkp hc1 hc2
          gi_wp2
          go_roundw
          case rel =>
            have hz1 := HK'.out.size
            simp only [World.size_alloc] at hz1
            refine ⟨k + 1, C2, by omega, by go_num, ?_⟩
            refine ⟨by rw [filt_yes rs k hlt hrw]; exact HJ'.out, fun j hj => ⟨HC'.out.2 j hj, ?_⟩, by have := HS.out.size; omega, fun i hi => ?_⟩
            · rcases HC'.out.1 j hj with h | h
              · exact (HS.out.cs j h).2
              · have := HS.out.size
                have := HZ.out
                simp only [World.size_alloc] at h
                exact ⟨by omega, by omega⟩
            · rw [HK'.out.cell (p := ⟨rb, i * 2, none⟩) (by show rb < _; simp; omega) (fun h => (HS.out.cs _ h).2.2 rfl), HK'.out.cell (p := ⟨rb, i * 2 + 1, none⟩) (by show rb < _; simp; omega) (fun h => (HS.out.cs _ h).2.2 rfl),
                World.cell?_alloc_old _ _ _ (by show rb ≠ _; omega), World.cell?_alloc_old _ _ _ (by show rb ≠ _; omega)]
              exact HS.out.cells i hi
          case measure => simp [intOf]; omega
        · have HJ' := hide hj
          clear hj
          gi_wp2
          refine bodyPost_ret (results_none rfl _ _ _) rfl ?_
          exact ⟨⟨_, rfl⟩, .inr ⟨_, C2, trivial, HJ'.out⟩⟩
    · obtain rfl : k = rs.length := by omega
      gi_wp2
      go_end0
      refine ⟨⟨_, rfl⟩, .inl ⟨_, C1, ?_, HS.out.inv⟩⟩
      rw [List.take_of_length_le (Nat.le_refl _)]

end Go.Proofs.Ytbimfljllclgfaa
