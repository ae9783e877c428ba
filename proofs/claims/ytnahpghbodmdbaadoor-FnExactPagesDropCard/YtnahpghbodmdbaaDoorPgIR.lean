/- The shelf's chain once more (PgI), for a body that turns the pages. -/
import Derived.Test.YtnahpghbodmdbaaDoorPgI
import Derived.Test.YtnahpghbodmdbaaDoorRfR
namespace Go.Proofs.YtnahpghbodmdbaaDoor
open Go.RowKit Go.Shelf
attribute [local go_sem] Oper.semAt_some

/-- The pages as they lie when these were told. -/
def RP (Q : List (Nat × Pg) → List Pg) (sb lb cap : Nat) (pre : List (Nat × Pg)) (W : World) : Prop :=
  W.cell? ⟨sb, 0, none⟩ = some (.slice (some ⟨lb, 0, none⟩) 96 cap) ∧ (Q pre).length = 96 ∧ ∀ (i : Nat) (h : i < (Q pre).length), W.cell? ⟨lb, i * 3, none⟩ = some (.bool (Q pre)[i].used) ∧ W.cell? ⟨lb, i * 3 + 1, none⟩ = some (.string (Q pre)[i].data) ∧ W.cell? ⟨lb, i * 3 + 2, none⟩ = some (.int .i64 (Q pre)[i].next)
def hxQ (Q : List (Nat × Pg) → List Pg) (first : Int) (pre : List (Nat × Pg)) (x : Nat × Pg) : Prop := (x.1 : Int) = endP first pre ∧ ∃ h : x.1 < (Q pre).length, (Q pre)[x.1] = x.2

/-- Between two rounds of the iterator. -/
structure ChR (fb Bt sb : Nat) (W : World) (J : List (Nat × Pg) → (Nat → Prop) → World → Prop) (pre : List (Nat × Pg)) (wr : World) (C1 : Nat → Prop) : Prop where
  inv : J pre C1 wr
  cs : ∀ j, C1 j → j < wr.heap.size ∧ j ≠ fb ∧ j ≠ Bt
  size : W.heap.size ≤ wr.heap.size
  box : wr.cell? ⟨Bt, 0, none⟩ = some (.pointer (some ⟨sb, 0, none⟩))

set_option maxRecDepth 100000 in
set_option maxHeartbeats 4000000 in
theorem chain_seqR (Q : List (Nat × Pg) → List Pg) (first : Int) (fb Bt sb lb cap : Nat) (w : World) (hfb : fb < w.heap.size) (hBt : Bt < w.heap.size)
    (hf : w.cell? ⟨fb, 0, none⟩ = some (.int .i64 first)) (hb : w.cell? ⟨Bt, 0, none⟩ = some (.pointer (some ⟨sb, 0, none⟩))) :
    SeqR Tryd.prog 67 #[.pointer (some ⟨fb, 0, none⟩), .pointer (some ⟨Bt, 0, none⟩)] encP (fun k => k = fb ∨ k = Bt) (fun pre x _ _ => hxQ Q first pre x) (sP first) (fun _ => True) (RP Q sb lb cap) w := by
  intro n l J Jx C W hW hD hC hJ hJx hRR hY h0
  have f0 : W.cell? ⟨fb, 0, none⟩ = some (.int .i64 first) := (hW.cell (p := ⟨fb, 0, none⟩) hfb).trans hf
  have b0 : W.cell? ⟨Bt, 0, none⟩ = some (.pointer (some ⟨sb, 0, none⟩)) := (hW.cell (p := ⟨Bt, 0, none⟩) hBt).trans hb
  have l0 : W.cell? ⟨sb, 0, none⟩ = some (.slice (some ⟨lb, 0, none⟩) 96 cap) := (hRR _ _ _ h0).1
  have HRR := hide hRR
  have HZ : Hid (w.heap.size ≤ W.heap.size) := hW.size
  have HJ := hide hJ
  have HY := hide hY
  have HST : Hid (ChR fb Bt sb W J [] W C) := ⟨h0, fun j hj => ⟨hC j hj, fun e => hD j (.inl e) hj, fun e => hD j (.inr e) hj⟩, Nat.le_refl _, b0⟩
  clear hJ hJx hY h0 hD hC hf hb hW hRR
  show CallsIn Fence.wide n Tryd.prog 67 #[.func (.yield l) #[] #[], .pointer (some ⟨fb, 0, none⟩), .pointer (some ⟨Bt, 0, none⟩)] W _
  refine callsIn_of_wp Tryd.func67 rfl trivial ?_ rfl
  simp only [Tryd.ntmps67, List.size_toArray, List.length_cons, List.length_nil, Nat.reduceAdd, Nat.reduceSub, Array.replicate_succ, Array.replicate_zero, List.push_toArray, List.append_toArray, List.nil_append, List.cons_append]
  gi_wp2
  gi_loopw [4, 12] (fun av i wr => ∃ (pre : List (Nat × Pg)) (C1 : Nat → Prop), pre.length ≤ 96 ∧ i = .int .i64 (pre.length : Int) ∧ av = .int .i64 (endP first pre) ∧ Hid (ChR fb Bt sb W J pre wr C1)) (fun _ i _ => 96 - (intOf i).toNat)
  case atStart => exact ⟨[], C, Nat.zero_le _, rfl, rfl, HST⟩
  case round =>
    obtain ⟨pre, C1, hk, rfl, rfl, HS⟩ := hrel
    clear HST f0 b0 l0
    have b0 := HS.out.box
    obtain ⟨l0, hQl, hQc⟩ := HRR.out _ _ _ HS.out.inv
    have HQc := hide hQc
    clear hQc
    by_cases hlt : pre.length < 96
    · have hltI : (pre.length : Int) < 96 := by omega
      by_cases hneg : endP first pre < 0
      · have hnd : decide (endP first pre < 0) = true := by simpa using hneg
        have HE : Hid (sP first pre) := .inl hneg
        generalize endP first pre = ev at hnd hneg
        gi_wp2
        refine bodyPost_ret (results_none rfl _ _ _) rfl ?_
        exact ⟨⟨_, rfl⟩, .inl ⟨pre, C1, HE.out, HS.out.inv⟩⟩
      · by_cases hbig : 96 ≤ endP first pre
        · have hnd : decide (endP first pre < 0) = false := by simpa using hneg
          have hbd : decide ((96 : Int) ≤ endP first pre) = true := by simpa using hbig
          have HE : Hid (sP first pre) := .inr (.inl hbig)
          generalize endP first pre = ev at hnd hneg hbd hbig
          gi_wp2
          refine bodyPost_ret (results_none rfl _ _ _) rfl ?_
          first | exact ⟨⟨_, rfl⟩, .inl ⟨pre, C1, HE.out, HS.out.inv⟩⟩ | exact ⟨⟨_, rfl⟩, .inl ⟨pre, HE.out, C1, HS.out.inv⟩⟩
        · obtain ⟨k, hke⟩ : ∃ k : Nat, endP first pre = (k : Int) := ⟨(endP first pre).toNat, by omega⟩
          have hk96 : k < (Q pre).length := by omega
          have HX : Hid (hxQ Q first pre (k, (Q pre)[k])) := ⟨hke.symm, hk96, rfl⟩
          obtain ⟨c0, c1, c2⟩ := HQc.out k hk96
          have hkI : (k : Int) < 96 := by omega
          have hlw : lb < wr.heap.size := World.block_lt_of_cell? wr _ c0
          rw [hke]
          have HJ1 : Hid (∀ o, J pre C1 (wr.alloc o)) := fun o => HJ.out _ _ _ _ HS.out.inv (Kept.of_new ((Below.refl _ _).alloc (Nat.le_refl _) o))
          obtain ⟨fn, tmps, assign, body, hy, hR⟩ := yield_any (n - 1) (HY.out pre (k, (Q pre)[k]) C1 (wr.alloc (.cells #[.bool (Q pre)[k].used, .string (Q pre)[k].data, .int .i64 (Q pre)[k].next] 74)) (HJ1.out _) HX.out (fun j hj => by have := (HS.out.cs j hj).1; simp; omega))
          simp only [encP] at hy
          have HR3 := hide hR
          have HKe := hide hke
          clear hR hke hneg hbig
          gi_wp2
          refine ⟨wide_room _, HR3.out.mono ?_⟩
          rintro e W' (⟨rfl, C2, hj, hkp, hc1, hc2⟩ | ⟨rfl, C2, hj, _, _, _⟩)
          · have HST2 : Hid (ChR fb Bt sb W J (pre ++ [(k, (Q pre)[k])]) W' C2) := by
              have hz1 := hkp.size
              simp only [World.size_alloc] at hz1
              have hsz := HS.out.size
              have hzz := HZ.out
              have ke : ∀ (b j : Nat), b < w.heap.size → (b = fb ∨ b = Bt) → W'.cell? ⟨b, j, none⟩ = wr.cell? ⟨b, j, none⟩ := fun b j hb ho => by
                rw [hkp.cell (p := ⟨b, j, none⟩) (by show b < _; simp; omega) (fun h => by have := (HS.out.cs b h).2; show False; rcases ho with e | e <;> (subst e; omega)), World.cell?_alloc_old _ _ _ (by show b ≠ _; omega)]
              refine ⟨hj, fun j hj' => ⟨hc2 j hj', ?_⟩, by omega, by rw [ke Bt 0 hBt (.inr rfl)]; exact HS.out.box⟩
              rcases hc1 j hj' with h | h
              · exact (HS.out.cs j h).2
              · simp only [World.size_alloc] at h
                omega
            have q2 : W'.cell? ⟨wr.heap.size, 2, none⟩ = some (.int .i64 (Q pre)[k].next) := by
              rw [hkp.cell (p := ⟨wr.heap.size, 2, none⟩) (by show wr.heap.size < _; simp) (fun h => by have := (HS.out.cs wr.heap.size h).1; omega)]
              exact (Blk.new wr _ _).cell 2 _ rfl
            clear hj hkp hc1 hc2 c0 c1 c2
            gi_wp2
            go_roundw
            case rel => exact ⟨pre ++ [(k, (Q pre)[k])], C2, by simp; omega, by simp, by rw [endP_snoc], HST2⟩
            case measure => simp [intOf]; omega
          · have HJ' := hide hj
            clear hj
            gi_wp2
            refine bodyPost_ret (results_none rfl _ _ _) rfl ?_
            exact ⟨⟨_, rfl⟩, .inr ⟨_, C2, trivial, HJ'.out⟩⟩
    · obtain hle : pre.length = 96 := by omega
      have hnI : ¬ (pre.length : Int) < 96 := by omega
      gi_wp2
      go_end0
      first | exact ⟨⟨_, rfl⟩, .inl ⟨pre, C1, (.inr (.inr hle) : sP first pre), HS.out.inv⟩⟩ | exact ⟨⟨_, rfl⟩, .inl ⟨pre, (.inr (.inr hle) : sP first pre), C1, HS.out.inv⟩⟩

end Go.Proofs.YtnahpghbodmdbaaDoor
