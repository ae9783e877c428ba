/- The specification's chain of a text's pages. -/
import Derived.Test.YtblcmnlbapbebaaDoorPgV
import Derived.Test.YtblcmnlbapbebaaDoorQI
import Derived.Deep.AppendLies
namespace Go.Proofs.YtblcmnlbapbebaaDoor
open Go.RowKit

theorem own_none3 {w : World} {base b : Nat} {e : TypeId} (h : Blk w b #[] e) (hb : base ≤ b) : w.ownsRow base e 1 (.slice (some ⟨b, 0, none⟩) 0 0) 0 [] :=
  ⟨rfl, .inr ⟨b, 0, #[], rfl, hb, h, Nat.le_refl _, by unfold maxLen; omega, rfl, rfl⟩⟩
def natsC (c : List Nat) : List Value := c.map fun (x : Nat) => Value.int .i64 (x : Int)

/-- Between two rounds of the specification's chain: c are the places behind which at_ and left come. -/
structure ChI (w : World) (A : Array Value) (P : List Pg) (first : Int) (m : Nat) (c : List Nat) (av : Int) (lf : Nat) (ov : Value) (wr : World) : Prop where
  below : Below w.heap.size w wr
  row : wr.ownsRow (w.heap.size + 2) 3 1 ov c.length (natsC c)
  size : w.heap.size + 2 ≤ wr.heap.size
  box : Blk wr w.heap.size A 31
  eq : chainV P first m = (chainV P av lf).map fun x => (c ++ x.1, x.2)
  pos : 0 < lf → 40 * c.length + lf = m
  zero : lf = 0 → 40 * c.length ≤ m + 39

theorem chainV_no (P : List Pg) (av : Int) (lf : Nat) (h0 : ¬ av < 0) (h : ∀ h1 : av.toNat < P.length, fitB P[av.toNat] lf = false) : chainV P av lf = none := by
  rw [chainV, if_neg h0]
  by_cases h1 : av.toNat < P.length
  · rw [dif_pos h1, dif_neg (by rw [h h1]; simp)]
  · rw [dif_neg h1]
theorem chainV_end0 (P : List Pg) (av : Int) (lf : Nat) (h0 : av < 0) : chainV P av lf = if lf = 0 then some ([], av) else none := by rw [chainV, if_pos h0]
theorem chainV_next (P : List Pg) (k lf : Nat) (hk : k < P.length) (hf : fitB P[k] lf = true) : chainV P (k : Int) lf = (chainV P P[k].next (lf - min lf 40)).map fun x => (k :: x.1, x.2) := by
  rw [chainV, if_neg (by omega), dif_pos (by simpa using hk), dif_pos (by simpa using hf)]
  rfl
theorem fitB_yes {p : Pg} {lf : Nat} (h1 : p.used = true) (h2 : p.data.size = min lf 40) (h3 : 0 < lf) : fitB p lf = true := by simp [fitB, h1, h2, h3]
theorem fitB_used {p : Pg} {lf : Nat} (h1 : p.used = false) : fitB p lf = false := by simp [fitB, h1]
theorem fitB_size {p : Pg} {lf : Nat} (h1 : p.data.size ≠ min lf 40) : fitB p lf = false := by simp [fitB, h1]
theorem fitB_zero {p : Pg} {lf : Nat} (h1 : lf = 0) : fitB p lf = false := by simp [fitB, h1]

theorem ChI.none {w : World} {A : Array Value} {P : List Pg} {first : Int} {m : Nat} {c : List Nat} {av : Int} {lf : Nat} {ov : Value} {wr : World} (h : ChI w A P first m c av lf ov wr) (hn : chainV P av lf = .none) : chainV P first m = .none := by rw [h.eq, hn]; rfl
theorem ChI.next {w : World} {A : Array Value} {P : List Pg} {first : Int} {m : Nat} {c : List Nat} {k : Nat} {lf : Nat} {ov : Value} {wr w1 : World} {o : Obj} {g cap : Nat} (h : ChI w A P first m c (k : Int) lf ov wr) (hk : k < P.length) (hf : fitB P[k] lf = true)
    (hown : w1.ownsRow (w.heap.size + 2) 3 1 (.slice (some ⟨g, 0, .none⟩) (c.length + 1) cap) (c.length + 1) (natsC c ++ [.int .i64 (k : Int)])) (hg : (wr.alloc o).grownBy w1 ov.ownBlock) :
    ChI w A P first m (c ++ [k]) P[k].next (lf - min lf 40) (.slice (some ⟨g, 0, .none⟩) (c.length + 1) cap) w1 := by
  have hl := (fitB_out hf).2.2
  have hp := h.pos hl
  refine ⟨(h.below.alloc h.below.size o).grown hg (by have := h.below.size; simp; omega) (fun g' hg' => by have := (h.row.lt g' hg').1; omega), ?_, by have := hg.size; have := h.size; simp at *; omega, ?_, ?_, fun h0 => ?_, fun h0 => ?_⟩
  · have e : natsC (c ++ [k]) = natsC c ++ [.int .i64 (k : Int)] := by simp [natsC]
    rw [e, List.length_append]
    exact hown
  · have hx := h.box.lt
    exact (hg.block _ (by simp; omega) (fun e => by have := (h.row.lt _ e.symm).1; omega)).trans ((Below.heap_alloc _ _ _ hx).trans h.box)
  · rw [h.eq, chainV_next P k lf hk hf, Option.map_map]
    congr 1
    funext x
    simp
  · rw [List.length_append]; simp; omega
  · rw [List.length_append]; simp; omega

/-- What the chain answers. -/
def ChainPost (w : World) (P : List Pg) (first : Int) (m : Nat) (e : Ending) (w' : World) : Prop :=
  ∃ oa n oc b, e = .returned (.tuple #[.slice oa n oc, .bool b]) ∧ Below w.heap.size w w' ∧ (chainV P first m = .none → b = false) ∧
    ∀ x, chainV P first m = some x → b = true ∧ n = x.1.length ∧ w'.ownsRow w.heap.size 3 1 (.slice oa n oc) n (natsC x.1)

set_option maxHeartbeats 4000000 in
set_option maxRecDepth 100000 in
theorem l32Chain_any (P : List Pg) (pv nv : Value) (nm : ByteArray) (first : Int) (m : Nat) (w : World) (lo hi : Nat) (hp : RcsAt fPg w lo hi pv P) (hhi : hi ≤ w.heap.size) (hP : P.length = 96) (hm : m ≤ 3000) (hs : ∀ (i : Nat) (h : i < P.length), P[i].data.size ≤ maxLen) (hnv : ∃ a n c, nv = .slice a n c) :
    Calls Tryd.prog 25 #[.agg #[pv, nv], .agg #[.string nm, .int .i64 first, .int .i64 (m : Int)]] w (fun e w' => ChainPost w P first m e w') := by
  obtain ⟨na, nn, nc, rfl⟩ := hnv
  obtain ⟨iS, hiS', hzS, hsS, hbS⟩ := info_I
  have hiS := hide hiS'
  clear hiS'
  obtain ⟨pb, po, hpb, pc, rfl, hcell⟩ : ∃ b o, b < w.heap.size ∧ ∃ cap, pv = .slice (some ⟨b, o, .none⟩) 96 cap ∧ ∀ (i : Nat) (h : i < P.length), w.cell? ⟨b, o + i * 3, .none⟩ = some (fPg P[i]).1 ∧ w.cell? ⟨b, o + i * 3 + 1, .none⟩ = some (fPg P[i]).2.1 ∧ w.cell? ⟨b, o + i * 3 + 2, .none⟩ = some (fPg P[i]).2.2 := by
    obtain ⟨a, cap, rfl, _, hc⟩ := hp
    obtain ⟨b, o, rfl, h1, h2, h3⟩ := hc (by omega)
    exact ⟨b, o, by omega, cap, by rw [hP], h3⟩
  have HCell := hide hcell
  have HS := hide hs
  clear hp hcell hs
  go_enter Tryd.func25, Tryd.ntmps25
  go_wp2_with fail
  go_loopw [6, 7, 8] (fun ov av lv wr => ∃ (c : List Nat) (a : Int) (lf : Nat), av = .int .i64 a ∧ lv = .int .i64 (lf : Int) ∧ lf ≤ 3000 ∧ Hid (ChI w #[.slice (some ⟨pb, po, .none⟩) 96 pc, .slice na nn nc] P first m c a lf ov wr)) (fun _ _ lv _ => (intOf lv).toNat)
  case atStart =>
    refine ⟨[], first, m, rfl, rfl, hm, ?_⟩
    refine ⟨(((Below.refl _ _).alloc (Nat.le_refl _) _).alloc (by simp) _).alloc (by simp; omega) _, own_none3 (Blk.atn (by simp)) (by omega), by simp, ((Blk.new w _ _).alloc _).alloc _, ?_, fun _ => by simp, fun _ => by simp⟩
    simp
  case round =>
    obtain ⟨c, a, lf, rfl, rfl, hlf, HC⟩ := hrel
    obtain ⟨oa, oc, rfl⟩ := ownsRow_form HC.out.row
    have hb0 := HC.out.box.cell 0 _ rfl
    have hw0 := HC.out.box.lt
    by_cases h0 : a < 0
    · have hd : decide (0 ≤ a) = false := by simp; omega
      have HE := hide (chainV_end0 P a lf h0)
      by_cases hl : lf = 0
      · subst hl
        go_wp2_with fail
        go_ret2
        refine ⟨oa, c.length, oc, true, rfl, HC.out.below, fun hn => ?_, fun x hx => ?_⟩
        · rw [HC.out.eq, HE.out] at hn; simp at hn
        · rw [HC.out.eq, HE.out] at hx
          simp only [if_true, Option.map_some, Option.some.injEq, List.append_nil] at hx
          subst hx
          refine ⟨rfl, rfl, ?_⟩
          have hr := HC.out.row
          rcases hr with ⟨q1, q2 | ⟨g, cap, cur, q3, q4, q5⟩⟩
          · exact ⟨q1, .inl q2⟩
          · exact ⟨q1, .inr ⟨g, cap, cur, q3, by omega, q5⟩⟩
      · have hl0 : ((lf : Int) == 0) = false := by simp; omega
        have HN : Hid (chainV P first m = .none) := HC.out.none (by rw [HE.out, if_neg hl])
        go_wp2_with fail
        go_ret2
        refine ⟨oa, c.length, oc, false, rfl, HC.out.below, fun _ => rfl, fun x hx => ?_⟩
        rw [HN.out] at hx; cases hx
    · obtain ⟨k, rfl⟩ : ∃ k : Nat, a = (k : Int) := ⟨a.toNat, by omega⟩
      by_cases hk : k < 96
      · obtain ⟨X0, X1, X2⟩ := HCell.out k (by omega)
        rw [← HC.out.below.cell (p := ⟨pb, po + k * 3, .none⟩) hpb] at X0
        rw [← HC.out.below.cell (p := ⟨pb, po + k * 3 + 1, .none⟩) hpb] at X1
        rw [← HC.out.below.cell (p := ⟨pb, po + k * 3 + 2, .none⟩) hpb] at X2
        simp only [fPg] at X0 X1 X2
        have hkI : (k : Int) < 96 := by omega
        have hkP : k < P.length := by omega
        have hds := HS.out k hkP
        unfold maxLen at hds
        cases hu : P[k].used with
        | false =>
          rw [hu] at X0
          have HN : Hid (chainV P first m = .none) := HC.out.none (chainV_no P _ _ h0 fun h1 => fitB_used (by simpa using hu))
          go_wp2_with fail
          go_ret2
          refine ⟨oa, c.length, oc, false, rfl, HC.out.below, fun _ => rfl, fun x hx => ?_⟩
          rw [HN.out] at hx; cases hx
        | true =>
          rw [hu] at X0
          have hcl : c.length ≤ 96 := by
            rcases Nat.eq_zero_or_pos lf with h | h
            · have := HC.out.zero h; omega
            · have := HC.out.pos h; omega
          have hclI : ¬ (96 : Int) < (c.length : Int) := by omega
          have HU := hide hu
          have HNx := hide (fun (hf : fitB P[k] lf = true) (w1 : World) (o : Obj) (g cap : Nat) (h1 : w1.ownsRow (w.heap.size + 2) 3 1 (.slice (some ⟨g, 0, .none⟩) (c.length + 1) cap) (c.length + 1) (natsC c ++ [.int .i64 (k : Int)])) (h2 : (wr.alloc o).grownBy w1 (Value.slice oa c.length oc).ownBlock) => HC.out.next hkP hf h1 h2)
          have HNo := hide (fun (hf : fitB P[k] lf = false) => HC.out.none (chainV_no P _ _ h0 fun h1 => by simpa using hf))
          have HRow : Hid (∀ o, (wr.alloc o).ownsRow (w.heap.size + 2) 3 1 (.slice oa c.length oc) c.length (natsC c)) := fun o => HC.out.row.alloc _
          have HSZ : Hid (w.heap.size + 2 ≤ wr.heap.size) := HC.out.size
          have HX2 : Hid (∀ W, Below w.heap.size w W → W.cell? ⟨pb, po + k * 3 + 2, .none⟩ = some (.int .i64 P[k].next)) := fun W hW => (hW.cell (p := ⟨pb, po + k * 3 + 2, .none⟩) hpb).trans ((HCell.out k (by omega)).2.2)
          clear hu
          rcases (by omega : (40 < lf ∧ min lf 40 = 40) ∨ (lf ≤ 40 ∧ min lf 40 = lf)) with ⟨h40, hmm⟩ | ⟨h40, hmm⟩
          · have h40I : (40 : Int) < (lf : Int) := by omega
            have hlfI : (0 : Int) < (lf : Int) ∨ lf = 0 := by omega
            by_cases hsz : P[k].data.size = 40
            · have hne : (((P[k].data.size : Nat) : Int) != 40) = false := by simp; omega
              have HF : Hid (fitB P[k] lf = true) := fitB_yes HU.out (by rw [hmm]; exact hsz) (by omega)
              go_wp2_with (at_builtin; refine wpList_append_lies _ rfl _ _ 61 rfl (w.heap.size + 2) 3 iS (.int .i64 0) 1 8 Tryd.underlying61 hiS.out hzS hsS hbS rfl (by decide) (.slice oa c.length oc) c.length (natsC c) rfl (HRow.out _) ⟨wr.heap.size, 0, .none⟩ 1 1 [.int .i64 (k : Int)] rfl (by simp) (World.news_of_block (heap_alloc_new wr _)) (by simp [Value.oneCell']) (by decide) (by unfold maxLen; omega) (by omega) (by have := HSZ.out; simp; omega) _ rfl ?_; intro g cap w1 hown hgrow hat hgl; have HN1 := hide (HNx.out HF.out _ _ _ _ hown hgrow); have Y2 := HX2.out _ HN1.out.below; have Y0 := HN1.out.box.cell 0 _ rfl; clear hown hgrow hat hgl X0 X1 X2 hb0)
              have hmm2 : ((40 : Nat) : Int) = 40 := by omega
              go_roundw
              case rel =>
                refine ⟨_, _, lf - min lf 40, rfl, by go_num, by omega, HN1⟩
              case measure => simp [intOf]; omega
            · have hne : (((P[k].data.size : Nat) : Int) != 40) = true := by simp; omega
              have HN := hide (HNo.out (fitB_size (by rw [hmm]; exact hsz)))
              go_wp2_with fail
              go_ret2
              refine ⟨oa, c.length, oc, false, rfl, HC.out.below, fun _ => rfl, fun x hx => ?_⟩
              rw [HN.out] at hx; cases hx
          · have h40I : ¬ (40 : Int) < (lf : Int) := by omega
            have hlfI : (0 : Int) < (lf : Int) ∨ lf = 0 := by omega
            by_cases hsz : P[k].data.size = lf
            · have hne : (((P[k].data.size : Nat) : Int) != (lf : Int)) = false := by simp; omega
              by_cases hz : lf = 0
              · have hz1 : ((lf : Int) == 0) = true := by simp; omega
                have HN := hide (HNo.out (fitB_zero hz))
                go_wp2_with fail
                go_ret2
                refine ⟨oa, c.length, oc, false, rfl, HC.out.below, fun _ => rfl, fun x hx => ?_⟩
                rw [HN.out] at hx; cases hx
              have hz1 : ((lf : Int) == 0) = false := by simp; omega
              have HF : Hid (fitB P[k] lf = true) := fitB_yes HU.out (by rw [hmm]; exact hsz) (by omega)
              go_wp2_with (at_builtin; refine wpList_append_lies _ rfl _ _ 61 rfl (w.heap.size + 2) 3 iS (.int .i64 0) 1 8 Tryd.underlying61 hiS.out hzS hsS hbS rfl (by decide) (.slice oa c.length oc) c.length (natsC c) rfl (HRow.out _) ⟨wr.heap.size, 0, .none⟩ 1 1 [.int .i64 (k : Int)] rfl (by simp) (World.news_of_block (heap_alloc_new wr _)) (by simp [Value.oneCell']) (by decide) (by unfold maxLen; omega) (by omega) (by have := HSZ.out; simp; omega) _ rfl ?_; intro g cap w1 hown hgrow hat hgl; have HN1 := hide (HNx.out HF.out _ _ _ _ hown hgrow); have Y2 := HX2.out _ HN1.out.below; have Y0 := HN1.out.box.cell 0 _ rfl; clear hown hgrow hat hgl X0 X1 X2 hb0)
              have hmm2 : ((lf : Nat) : Int) = (lf : Int) := by omega
              go_roundw
              case rel =>
                refine ⟨_, _, lf - min lf 40, rfl, by go_num, by omega, HN1⟩
              case measure => simp [intOf]; omega
            · have hne : (((P[k].data.size : Nat) : Int) != (lf : Int)) = true := by simp; omega
              have HN := hide (HNo.out (fitB_size (by rw [hmm]; exact hsz)))
              go_wp2_with fail
              go_ret2
              refine ⟨oa, c.length, oc, false, rfl, HC.out.below, fun _ => rfl, fun x hx => ?_⟩
              rw [HN.out] at hx; cases hx
      · have hkI : ¬ (k : Int) < 96 := by omega
        have hkI2 : (96 : Int) ≤ (k : Int) := by omega
        have HN : Hid (chainV P first m = .none) := HC.out.none (chainV_no P _ _ h0 fun h1 => absurd h1 (by simp; omega))
        go_wp2_with fail
        go_ret2
        refine ⟨oa, c.length, oc, false, rfl, HC.out.below, fun _ => rfl, fun x hx => ?_⟩
        rw [HN.out] at hx; cases hx

end Go.Proofs.YtblcmnlbapbebaaDoor
