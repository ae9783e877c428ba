/- The shelf's text: the pages of a chain, one behind the other. -/
import Derived.Test.YtblcmnlbapbebaaDoorGtV
import Derived.Test.YtblcmnlbapbebaaDoorBldK
import Derived.Test.YtblcmnlbapbebaaDoorShelf
import Derived.Test.YtblcmnlbapbebaaDoorPgI
import Derived.Test.YtblcmnlbapbebaaDoorAsd
import Derived.BigRegionIn
namespace Go.Proofs.YtblcmnlbapbebaaDoor
open Go.RowKit Go.Shelf
attribute [local go_sem] Oper.semAt_some

/-- Between two rounds: the builder holds the text so far. -/
structure TxI (w : World) (P : List Pg) (first : Int) (m : Nat) (c : List Nat) (e0 : Int) (n0 b : Nat) (pre : List (Nat × Pg)) (C : Nat → Prop) (W : World) (v : Value) : Prop where
  cb : C b
  co : ∀ g, v.ownBlock = some g → C g
  cn : ∀ k, C k → k = b ∨ n0 ≤ k
  bd : BdK W n0 b v (Lib.strCells (catP P (pre.map Prod.fst)))
  ch : ∃ lf rest, chainV P (endP first pre) lf = some (rest, e0) ∧ c = pre.map Prod.fst ++ rest ∧ (catP P (pre.map Prod.fst)).size + lf ≤ m
  below : Below w.heap.size w W
  size : n0 ≤ W.heap.size
  lt : w.heap.size ≤ b ∧ b < n0
theorem TxI.kept {w : World} {P : List Pg} {first : Int} {m : Nat} {c : List Nat} {e0 : Int} {n0 b : Nat} {pre : List (Nat × Pg)} {C : Nat → Prop} {A B : World} {v : Value} (h : TxI w P first m c e0 n0 b pre C A v) (hk : Kept (fun k => k < n0 ∨ C k) A B) : TxI w P first m c e0 n0 b pre C B v := by
  have hl := h.lt
  have hz := h.size
  refine ⟨h.cb, h.co, h.cn, h.bd.of (hk.block b (by omega) (.inr h.cb)) (fun g hg => hk.block g ?_ (.inr (h.co g hg))), h.ch, ?_, Nat.le_trans hz hk.size, hl⟩
  · exact (h.bd.row.lt g hg).2
  · exact ⟨hk.os.trans h.below.os, hk.tape.trans h.below.tape, hk.output.trans h.below.output, Nat.le_trans h.below.size hk.size, fun k hk' => (hk.block k (by omega) (.inl (by omega))).trans (h.below.block k hk')⟩
theorem TxI.add {w : World} {P : List Pg} {first : Int} {m : Nat} {c : List Nat} {e0 : Int} {n0 b : Nat} {pre : List (Nat × Pg)} {C : Nat → Prop} {W W' : World} {v v' : Value} {k : Nat} (h : TxI w P first m c e0 n0 b pre C W v) (hC : ∀ k, C k → k < W.heap.size) (hk : k < P.length) (he : (k : Int) = endP first pre)
    (hb : BdK W' n0 b v' (Lib.strCells (catP P (pre.map Prod.fst)) ++ Lib.strCells P[k].data)) (hat : v'.ownBlock = v.ownBlock ∨ ∃ g, v'.ownBlock = some g ∧ W.heap.size ≤ g) (hK : Kept (fun k => k ≠ b ∧ v.ownBlock ≠ some k) W W') :
    Left (fun pre C W => ∃ v, TxI w P first m c e0 n0 b pre C W v) C (pre ++ [(k, P[k])]) W W' := by
  have hl := h.lt
  have hz := h.size
  obtain ⟨lf, rest, h1, h2, h3⟩ := h.ch
  rw [← he] at h1
  obtain ⟨r, rfl, hf, hr⟩ := chainV_cons hk h1
  obtain ⟨_, hd, hp⟩ := fitB_out hf
  have hcat : catP P ((pre ++ [(k, P[k])]).map Prod.fst) = catP P (pre.map Prod.fst) ++ P[k].data := by rw [List.map_append]; show catP P (_ ++ [k]) = _; rw [catP_snoc, dataAt_get P k hk]
  refine ⟨fun j => C j ∨ (W.heap.size ≤ j ∧ j < W'.heap.size), ⟨v', .inl h.cb, fun g hg => ?_, fun j hj => ?_, ?_, ⟨lf - min lf 40, r, ?_, ?_, ?_⟩, ?_, Nat.le_trans hz hK.size, hl⟩, hK.mono (fun j _ hn => ⟨fun e => hn (e ▸ h.cb), fun e => hn (h.co j e)⟩), fun j hj => hj.imp id (fun x => x.1), fun j hj => ?_⟩
  · rcases hat with e | ⟨g', e, hg'⟩
    · exact .inl (h.co g (by rw [← e]; exact hg))
    · rw [e] at hg; cases hg; exact .inr ⟨hg', (hb.row.lt g (by rw [e])).2⟩
  · rcases hj with hj | hj
    · exact h.cn j hj
    · exact .inr (by omega)
  · rw [hcat]
    have e2 : Lib.strCells (catP P (pre.map Prod.fst) ++ P[k].data) = Lib.strCells (catP P (pre.map Prod.fst)) ++ Lib.strCells P[k].data := by simp [Lib.strCells]
    rw [e2]; exact hb
  · rw [endP_snoc]; exact hr
  · rw [h2]; simp
  · rw [hcat, ByteArray.size_append, hd]; omega
  · exact ⟨hK.os.trans h.below.os, hK.tape.trans h.below.tape, hK.output.trans h.below.output, Nat.le_trans h.below.size hK.size, fun j hj => (hK.block j (by have := h.below.size; omega) ⟨by omega, fun e => by have := (h.bd.row.lt j e).1; omega⟩).trans (h.below.block j hj)⟩
  · rcases hj with hj | hj
    · exact Nat.lt_of_lt_of_le (hC j hj) hK.size
    · exact hj.2

set_option maxRecDepth 100000 in
set_option maxHeartbeats 4000000 in
theorem text_any (P : List Pg) (nm : ByteArray) (first : Int) (m : Nat) (c : List Nat) (e0 : Int) (sb lb cap : Nat) (w : World) (hP : P.length = 96) (hm : m ≤ 3000) (hch : chainV P first m = some (c, e0))
    (hc : w.cell? ⟨sb, 0, none⟩ = some (.slice (some ⟨lb, 0, none⟩) 96 cap)) (hcells : ∀ (i : Nat) (h : i < P.length), w.cell? ⟨lb, i * 3, none⟩ = some (.bool P[i].used) ∧ w.cell? ⟨lb, i * 3 + 1, none⟩ = some (.string P[i].data) ∧ w.cell? ⟨lb, i * 3 + 2, none⟩ = some (.int .i64 P[i].next))
    (hsb : sb < w.heap.size) (hlb : lb < w.heap.size) :
    Calls Tryd.prog 36 #[.pointer (some ⟨sb, 0, none⟩), .agg #[.string nm, .int .i64 first, .int .i64 (m : Int)]] w (fun e w' => e = .returned (.string (catP P c)) ∧ Below w.heap.size w w') := by
  have HCell := hide hcells
  have HCh := hide (fun (W : World) => chain_any sb first W)
  clear hcells
  refine (callsIn_wide (n := 9)).1 ?_
  refine callsIn_of_wp_marks Tryd.func36 rfl trivial ?_ rfl
  simp only [Tryd.ntmps36, List.size_toArray, List.length_cons, List.length_nil, Nat.reduceAdd, Nat.reduceSub, Array.replicate_succ, Array.replicate_zero, List.push_toArray, List.append_toArray, List.nil_append, List.cons_append]
  gi_wp2_with (refine ⟨trivial, ?_⟩; gi_at_call 42; refine (callsIn_wide.2 (HCh.out _)).mono ?_; rintro e w3 ⟨rfl, rfl⟩)
  obtain ⟨W0, hW0⟩ : ∃ W0, ((((w.alloc (Obj.cells #[.string nm, .int .i64 first, .int .i64 (m : Int)] 40)).alloc (Obj.cells #[.pointer none, .slice none 0 0] 84)).alloc (Obj.cells #[.pointer (some ⟨sb, 0, none⟩)] 44)).alloc (Obj.cells #[.int .i64 first] 3)) = W0 := ⟨_, rfl⟩
  have HZ : Hid (W0.heap.size = w.heap.size + 4) := by subst hW0; show _ = _; simp
  have HB0 : Hid (Below w.heap.size w W0) := by
    subst hW0
    exact ((((Below.refl _ _).alloc (Nat.le_refl _) _).alloc (by simp) _).alloc (by simp; omega) _).alloc (by simp; omega) _
  have HT0 : Hid (Blk W0 (w.heap.size + 1 + 1) #[.pointer (some ⟨sb, 0, none⟩)] 44 ∧ Blk W0 (w.heap.size + 1 + 1 + 1) #[.int .i64 first] 3) := by
    subst hW0; exact ⟨(Blk.atn (by simp)).alloc _, Blk.atn (by simp)⟩
  have HI0 : Hid (TxI w P first m c e0 (w.heap.size + 4) (w.heap.size + 1) [] (fun k => k = w.heap.size + 1) W0 (.slice none 0 0)) := by
    refine ⟨rfl, fun g hg => by simp [Value.ownBlock] at hg, fun k hk => .inl hk, ?_, ⟨m, c, hch, rfl, by show 0 + m ≤ m; omega⟩, HB0.out, by have := HZ.out; omega, by omega⟩
    refine ⟨⟨_, .inl rfl, ?_⟩, World.ownsRow_nil _ _ _ _⟩
    subst hW0
    exact ((Blk.atn (by simp)).alloc _).alloc _
  rw [hW0]
  clear hW0
  refine rf_law (gf := 50) (lb := #[.pointer (some ⟨w.heap.size + 1 + 1 + 1, 0, none⟩), .pointer (some ⟨w.heap.size + 1 + 1, 0, none⟩)]) rfl (enters_of Tryd.func50 (by kernel_rfl) rfl)
    (chain_seq P first (w.heap.size + 1 + 1 + 1) (w.heap.size + 1 + 1) sb lb cap W0 hP (by have := HZ.out; omega) (by have := HZ.out; omega) (by have := HZ.out; omega) (by have := HZ.out; omega) (HT0.out.2.cell 0 _ rfl) (HT0.out.1.cell 0 _ rfl) ((HB0.out.cell (p := ⟨sb, 0, none⟩) hsb).trans hc)
      (fun i hi => by
        obtain ⟨q0, q1, q2⟩ := HCell.out i hi
        exact ⟨(HB0.out.cell (p := ⟨lb, i * 3, none⟩) hlb).trans q0, (HB0.out.cell (p := ⟨lb, i * 3 + 1, none⟩) hlb).trans q1, (HB0.out.cell (p := ⟨lb, i * 3 + 2, none⟩) hlb).trans q2⟩))
    (Below.refl _ _) (fun _ => rfl) (fun _ _ _ _ _ h _ => h) (fun _ _ _ _ _ h _ => h)
    (fun k => k = w.heap.size + 1) ?hD ?hC0
    (fun pre C W => ∃ v, TxI w P first m c e0 (w.heap.size + 4) (w.heap.size + 1) pre C W v) (fun _ _ _ _ => False)
    (fun pre C A B ⟨v, h⟩ hk => ⟨v, h.kept (by rw [HZ.out] at hk; exact hk)⟩) (fun _ _ _ _ _ h _ => h)
    ⟨_, HI0.out⟩
    (fun x a' A => ∃ pb, Blk A pb #[.bool x.2.used, .string x.2.data, .int .i64 x.2.next] 64 ∧ a' = { tmps := #[.pointer (some ⟨sb, 0, none⟩), .agg #[.string nm, .int .i64 first, .int .i64 (m : Int)], undef, .pointer (some ⟨w.heap.size, 0, none⟩), .string ⟨#[]⟩, .pointer (some ⟨w.heap.size + 1, 0, none⟩), undef, .pointer (some ⟨pb, 0, none⟩), .pointer (some ⟨sb, 0, none⟩), .pointer (some ⟨w.heap.size, 1, none⟩), .int .i64 first, .func (.func 50) #[] #[.pointer (some ⟨w.heap.size + 1 + 1 + 1, 0, none⟩), .pointer (some ⟨w.heap.size + 1 + 1, 0, none⟩)], .int .i64 (x.1 : Int), aPg x.2, undef, undef, undef, undef], defers := [] })
    (fun x a' A l r o hl ⟨pb, h2, h3⟩ => ⟨pb, (World.putObj_heap_other (fun e => by subst e; unfold Blk at h2; rw [hl] at h2; cases h2)).trans h2, h3⟩) ?assign ?body ?done ?stop
  case hD =>
    have h2 := HZ.out
    rintro k (rfl | rfl | rfl | rfl) <;> (refine ⟨by omega, ?_⟩; intro h; omega)
  case hC0 =>
    have h2 := HZ.out
    intro k h; omega
  case assign =>
    rintro l pre x C W K ⟨v, hI⟩ _ hK
    clear hI
    dsimp only [encP]
    gi_wp2
    exact hK _ _ ((Below.refl _ _).alloc (Nat.le_refl _) _) ⟨W.heap.size, Blk.new W _ _, rfl⟩
  case body =>
    rintro l2 pre x C a' W ⟨v, hI⟩ hx hC ⟨pb, hpg, rfl⟩ hl hr
    obtain ⟨k, p⟩ := x
    obtain ⟨he0, hkP0, hpe0⟩ := hx
    have HE : Hid ((k : Int) = endP first pre) := he0
    have hkP : k < P.length := hkP0
    have hpe : P[k] = p := hpe0
    subst hpe
    clear he0 hkP0 hpe0
    have hsum := hI.ch
    have g1 := hpg.cell 1 _ rfl
    dsimp only at g1
    have HW : Hid (Calls Tryd.prog 34 #[.pointer (some ⟨w.heap.size + 1, 0, none⟩), .string P[k].data] W fun e W' => e = .returned (.tuple #[.int .i64 P[k].data.size, .nilIface]) ∧ Left (fun pre C W => ∃ v, TxI w P first m c e0 (w.heap.size + 4) (w.heap.size + 1) pre C W v) C (pre ++ [(k, P[k])]) W W') := by
      obtain ⟨lf, rest, h1, h2, h3⟩ := hsum
      rw [← HE.out] at h1
      obtain ⟨_, _, hf, _⟩ := chainV_cons hkP h1
      have hds := (fitB_out hf).2.1
      refine (writeK_any (w.heap.size + 4) (w.heap.size + 1) v _ P[k].data W hI.bd (by rw [Lib.strCells_length]; omega) hI.size).mono ?_
      rintro e W' ⟨h1, ⟨v', h2, h3⟩, h4⟩
      exact ⟨h1, hI.add hC hkP HE.out h2 h3 h4⟩
    clear hI hC hl hr HI0 HT0 hsum hpg
    gi_wp2_with (refine ⟨trivial, ?_⟩; gi_at_call 34; refine (CallsIn.inRound l2 (callsIn_wide.2 HW.out)).mono ?_; rintro e W' ⟨rfl, hL⟩; have HL := hide hL; clear hL)
    all_goals exact HL.out
  case done =>
    rintro d xs C W hd hS ⟨v, hI⟩ hK
    have hce : c = xs.map Prod.fst := by
      obtain ⟨lf, rest, h1, h2, h3⟩ := hI.ch
      have h0 : rest = [] := by
        rcases hS with h | h | h
        · exact chainV_lo h h1
        · exact (chainV_hi (by omega) h1).elim
        · have h4 := (chainV_len P m first m c e0 (Nat.le_refl _) hch).1
          rw [h2, List.length_append, List.length_map] at h4
          omega
      rw [h2, h0, List.append_nil]
    have hb := hI.bd.is (by omega)
    have HB := hide hI.below
    have HK := hide hK
    have hzw := hI.size
    rw [← hce, Lib.strCells_eq] at hb
    have h2 := Tryd.Builder_String_any_k (w.heap.size + 1) (w.heap.size + 1) _ W (Lib.IsBuilderF.of hb) (by omega)
    have h3 : (⟨(catP P c).data.toList.toArray⟩ : ByteArray) = catP P c := by simp
    rw [h3] at h2
    have HS := hide h2
    clear h2 h3 hI hb hS hK HI0 HT0 hce
    gi_wp2_with (refine ⟨trivial, ?_⟩; gi_at_call 37; refine (callsIn_wide.2 HS.out).mono ?_; rintro e W' ⟨rfl, _, hB1, hO1⟩; have HB1 := hide hB1; have HO1 := hide hO1; clear hB1 hO1)
    have hdV : W'.heap[d]? = some (.deferred (some [])) := HO1.out d _ HK.out (by have := HZ.out; simp; omega) (fun c fz h => by cases h)
    refine ⟨by simp, .inl ⟨_, _, rfl, run_takeDeferred hdV, ?_⟩⟩
    refine ⟨.string (catP P c), by simp [results, Tryd.results36, go_sem], rfl, ?_⟩
    have g := grownBy_putObj' W' d (.deferred none)
    have hB2 : Below w.heap.size w W' := HB.out.trans (HB1.out.mono (by omega))
    exact ⟨g.os.trans hB2.os, g.tape.trans hB2.tape, g.output.trans hB2.output, Nat.le_trans hB2.size g.size, fun k hk => (World.putObj_heap_other (by have := HZ.out; omega)).trans (hB2.block k hk)⟩
  case stop =>
    rintro d c' pre C W hd _ h
    exact h.elim

end Go.Proofs.YtblcmnlbapbebaaDoor
