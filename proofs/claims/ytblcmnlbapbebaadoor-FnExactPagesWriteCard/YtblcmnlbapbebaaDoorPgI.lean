/- The shelf's chain: the iterator's contract. -/
import Derived.Test.YtblcmnlbapbebaaDoorPgV
import Derived.Test.YtblcmnlbapbebaaDoorRf
import Derived.Shelf.Abstract
import Derived.OwnWalkIn
import Derived.TacticsInMore
import Derived.LoopIn
import Derived.Lib.OthersKept
import Derived.Maps.OwnIn
namespace Go.Proofs.YtblcmnlbapbebaaDoor
open Go.RowKit Go.Shelf
attribute [local go_sem] Oper.semAt_some

set_option maxHeartbeats 1000000 in
theorem chain_any (sb : Nat) (first : Int) (w : World) :
    Calls Tryd.prog 42 #[.pointer (some ⟨sb, 0, none⟩), .int .i64 first] w fun e w' => e = .returned (.func (.func 50) #[] #[.pointer (some ⟨w.heap.size + 1, 0, none⟩), .pointer (some ⟨w.heap.size, 0, none⟩)]) ∧ w' = (w.alloc (.cells #[.pointer (some ⟨sb, 0, none⟩)] 44)).alloc (.cells #[.int .i64 first] 3) := by
  go_enter Tryd.func42, Tryd.ntmps42
  go_wp2
  go_ret
  exact ⟨rfl, rfl⟩

/-- What the iterator hands over: a place, and its page. -/
def encP (x : Nat × Pg) : Array Value := #[.int .i64 (x.1 : Int), aPg x.2]
/-- Where the chain is behind these. -/
def endP (first : Int) (pre : List (Nat × Pg)) : Int := match pre.getLast? with | none => first | some y => y.2.next
theorem endP_nil (first : Int) : endP first [] = first := rfl
theorem endP_snoc (first : Int) (pre : List (Nat × Pg)) (x : Nat × Pg) : endP first (pre ++ [x]) = x.2.next := by simp [endP]
def hxP (P : List Pg) (first : Int) (pre : List (Nat × Pg)) (x : Nat × Pg) : Prop := (x.1 : Int) = endP first pre ∧ ∃ h : x.1 < P.length, P[x.1] = x.2
def sP (first : Int) (xs : List (Nat × Pg)) : Prop := endP first xs < 0 ∨ 96 ≤ endP first xs ∨ xs.length = 96

/-- Between two rounds of the iterator. -/
structure ChW (P : List Pg) (fb Bt sb lb cap : Nat) (W : World) (J : List (Nat × Pg) → (Nat → Prop) → World → Prop) (pre : List (Nat × Pg)) (wr : World) (C1 : Nat → Prop) : Prop where
  inv : J pre C1 wr
  cs : ∀ j, C1 j → j < wr.heap.size ∧ j ≠ fb ∧ j ≠ Bt ∧ j ≠ sb ∧ j ≠ lb
  size : W.heap.size ≤ wr.heap.size
  box : wr.cell? ⟨Bt, 0, none⟩ = some (.pointer (some ⟨sb, 0, none⟩))
  list : wr.cell? ⟨sb, 0, none⟩ = some (.slice (some ⟨lb, 0, none⟩) 96 cap)
  cells : ∀ (i : Nat) (h : i < P.length), wr.cell? ⟨lb, i * 3, none⟩ = some (.bool P[i].used) ∧ wr.cell? ⟨lb, i * 3 + 1, none⟩ = some (.string P[i].data) ∧ wr.cell? ⟨lb, i * 3 + 2, none⟩ = some (.int .i64 P[i].next)

set_option maxRecDepth 100000 in
set_option maxHeartbeats 4000000 in
theorem chain_seq (P : List Pg) (first : Int) (fb Bt sb lb cap : Nat) (w : World) (hP : P.length = 96) (hfb : fb < w.heap.size) (hBt : Bt < w.heap.size) (hsb : sb < w.heap.size) (hlb : lb < w.heap.size)
    (hf : w.cell? ⟨fb, 0, none⟩ = some (.int .i64 first)) (hb : w.cell? ⟨Bt, 0, none⟩ = some (.pointer (some ⟨sb, 0, none⟩))) (hc : w.cell? ⟨sb, 0, none⟩ = some (.slice (some ⟨lb, 0, none⟩) 96 cap))
    (hcells : ∀ (i : Nat) (h : i < P.length), w.cell? ⟨lb, i * 3, none⟩ = some (.bool P[i].used) ∧ w.cell? ⟨lb, i * 3 + 1, none⟩ = some (.string P[i].data) ∧ w.cell? ⟨lb, i * 3 + 2, none⟩ = some (.int .i64 P[i].next)) :
    SeqC Tryd.prog 50 #[.pointer (some ⟨fb, 0, none⟩), .pointer (some ⟨Bt, 0, none⟩)] encP (fun k => k = fb ∨ k = Bt ∨ k = sb ∨ k = lb) (fun pre x _ _ => hxP P first pre x) (sP first) (fun _ => True) w := by
  intro n l J Jx C W hW hD hC hJ hJx hY h0
  have f0 : W.cell? ⟨fb, 0, none⟩ = some (.int .i64 first) := (hW.cell (p := ⟨fb, 0, none⟩) hfb).trans hf
  have b0 : W.cell? ⟨Bt, 0, none⟩ = some (.pointer (some ⟨sb, 0, none⟩)) := (hW.cell (p := ⟨Bt, 0, none⟩) hBt).trans hb
  have l0 : W.cell? ⟨sb, 0, none⟩ = some (.slice (some ⟨lb, 0, none⟩) 96 cap) := (hW.cell (p := ⟨sb, 0, none⟩) hsb).trans hc
  have HZ : Hid (w.heap.size ≤ W.heap.size) := hW.size
  have HJ := hide hJ
  have HY := hide hY
  have HST : Hid (ChW P fb Bt sb lb cap W J [] W C) := ⟨h0, fun j hj => ⟨hC j hj, fun e => hD j (.inl e) hj, fun e => hD j (.inr (.inl e)) hj, fun e => hD j (.inr (.inr (.inl e))) hj, fun e => hD j (.inr (.inr (.inr e))) hj⟩, Nat.le_refl _, b0, l0, fun i hi => by
    rw [hW.cell (p := ⟨lb, i * 3, none⟩) hlb, hW.cell (p := ⟨lb, i * 3 + 1, none⟩) hlb, hW.cell (p := ⟨lb, i * 3 + 2, none⟩) hlb]; exact hcells i hi⟩
  clear hJ hJx hY h0 hD hC hf hb hc hW hcells
  show CallsIn Fence.wide n Tryd.prog 50 #[.func (.yield l) #[] #[], .pointer (some ⟨fb, 0, none⟩), .pointer (some ⟨Bt, 0, none⟩)] W _
  refine callsIn_of_wp Tryd.func50 rfl trivial ?_ rfl
  simp only [Tryd.ntmps50, List.size_toArray, List.length_cons, List.length_nil, Nat.reduceAdd, Nat.reduceSub, Array.replicate_succ, Array.replicate_zero, List.push_toArray, List.append_toArray, List.nil_append, List.cons_append]
  gi_wp2
  gi_loopw [4, 12] (fun av i wr => ∃ (pre : List (Nat × Pg)) (C1 : Nat → Prop), pre.length ≤ 96 ∧ i = .int .i64 (pre.length : Int) ∧ av = .int .i64 (endP first pre) ∧ Hid (ChW P fb Bt sb lb cap W J pre wr C1)) (fun _ i _ => 96 - (intOf i).toNat)
  case atStart => exact ⟨[], C, Nat.zero_le _, rfl, rfl, HST⟩
  case round =>
    obtain ⟨pre, C1, hk, rfl, rfl, HS⟩ := hrel
    clear HST f0 b0 l0
    have b0 := HS.out.box
    have l0 := HS.out.list
    by_cases hlt : pre.length < 96
    · have hltI : (pre.length : Int) < 96 := by omega
      by_cases hneg : endP first pre < 0
      · have hnd : decide (endP first pre < 0) = true := by simpa using hneg
        have HE : Hid (sP first pre) := .inl hneg
        generalize endP first pre = ev at hnd hneg
        gi_wp2
        refine bodyPost_ret (results_none rfl _ _ _) rfl ?_
        exact ⟨⟨_, rfl⟩, .inl ⟨pre, C1, HE.out, HS.out.inv⟩⟩
      · by_cases hbig : 96 ≤ endP first pre
        · have hnd : decide (endP first pre < 0) = false := by simpa using hneg
          have hbd : decide ((96 : Int) ≤ endP first pre) = true := by simpa using hbig
          have HE : Hid (sP first pre) := .inr (.inl hbig)
          generalize endP first pre = ev at hnd hneg hbd hbig
          gi_wp2
          refine bodyPost_ret (results_none rfl _ _ _) rfl ?_
          first | exact ⟨⟨_, rfl⟩, .inl ⟨pre, C1, HE.out, HS.out.inv⟩⟩ | exact ⟨⟨_, rfl⟩, .inl ⟨pre, HE.out, C1, HS.out.inv⟩⟩
        · obtain ⟨k, hke⟩ : ∃ k : Nat, endP first pre = (k : Int) := ⟨(endP first pre).toNat, by omega⟩
          have hk96 : k < P.length := by omega
          have HX : Hid (hxP P first pre (k, P[k])) := ⟨hke.symm, hk96, rfl⟩
          obtain ⟨c0, c1, c2⟩ := HS.out.cells k hk96
          have hkI : (k : Int) < 96 := by omega
          have hlw : lb < wr.heap.size := Nat.lt_of_lt_of_le hlb (Nat.le_trans HZ.out HS.out.size)
          rw [hke]
          have HJ1 : Hid (∀ o, J pre C1 (wr.alloc o)) := fun o => HJ.out _ _ _ _ HS.out.inv (Kept.of_new ((Below.refl _ _).alloc (Nat.le_refl _) o))
          obtain ⟨fn, tmps, assign, body, hy, hR⟩ := yield_any (n - 1) (HY.out pre (k, P[k]) C1 (wr.alloc (.cells #[.bool P[k].used, .string P[k].data, .int .i64 P[k].next] 64)) (HJ1.out _) HX.out (fun j hj => by have := (HS.out.cs j hj).1; simp; omega))
          simp only [encP] at hy
          have HR3 := hide hR
          have HKe := hide hke
          clear hR hke hneg hbig
          gi_wp2
          refine ⟨wide_room _, HR3.out.mono ?_⟩
          rintro e W' (⟨rfl, C2, hj, hkp, hc1, hc2⟩ | ⟨rfl, C2, hj, _, _, _⟩)
          · have HST2 : Hid (ChW P fb Bt sb lb cap W J (pre ++ [(k, P[k])]) W' C2) := by
              have hz1 := hkp.size
              simp only [World.size_alloc] at hz1
              have hsz := HS.out.size
              have hzz := HZ.out
              have ke : ∀ (b j : Nat), b < w.heap.size → (b = fb ∨ b = Bt ∨ b = sb ∨ b = lb) → W'.cell? ⟨b, j, none⟩ = wr.cell? ⟨b, j, none⟩ := fun b j hb ho => by
                rw [hkp.cell (p := ⟨b, j, none⟩) (by show b < _; simp; omega) (fun h => by have := (HS.out.cs b h).2; show False; rcases ho with e | e | e | e <;> (subst e; omega)), World.cell?_alloc_old _ _ _ (by show b ≠ _; omega)]
              refine ⟨hj, fun j hj' => ⟨hc2 j hj', ?_⟩, by omega, by rw [ke Bt 0 hBt (.inr (.inl rfl))]; exact HS.out.box, by rw [ke sb 0 hsb (.inr (.inr (.inl rfl)))]; exact HS.out.list, fun i hi => ?_⟩
              · rcases hc1 j hj' with h | h
                · exact (HS.out.cs j h).2
                · simp only [World.size_alloc] at h
                  omega
              · rw [ke lb _ hlb (.inr (.inr (.inr rfl))), ke lb _ hlb (.inr (.inr (.inr rfl))), ke lb _ hlb (.inr (.inr (.inr rfl)))]
                exact HS.out.cells i hi
            have q2 : W'.cell? ⟨wr.heap.size, 2, none⟩ = some (.int .i64 P[k].next) := by
              rw [hkp.cell (p := ⟨wr.heap.size, 2, none⟩) (by show wr.heap.size < _; simp) (fun h => by have := (HS.out.cs wr.heap.size h).1; omega)]
              exact (Blk.new wr _ _).cell 2 _ rfl
            clear hj hkp hc1 hc2 c0 c1 c2
            gi_wp2
            go_roundw
            case rel => exact ⟨pre ++ [(k, P[k])], C2, by simp; omega, by simp, by rw [endP_snoc], HST2⟩
            case measure => simp [intOf]; omega
          · have HJ' := hide hj
            clear hj
            gi_wp2
            refine bodyPost_ret (results_none rfl _ _ _) rfl ?_
            exact ⟨⟨_, rfl⟩, .inr ⟨_, C2, trivial, HJ'.out⟩⟩
    · obtain hle : pre.length = 96 := by omega
      have hnI : ¬ (pre.length : Int) < 96 := by omega
      gi_wp2
      go_end0
      first | exact ⟨⟨_, rfl⟩, .inl ⟨pre, C1, (.inr (.inr hle) : sP first pre), HS.out.inv⟩⟩ | exact ⟨⟨_, rfl⟩, .inl ⟨pre, (.inr (.inr hle) : sP first pre), C1, HS.out.inv⟩⟩

end Go.Proofs.YtblcmnlbapbebaaDoor
