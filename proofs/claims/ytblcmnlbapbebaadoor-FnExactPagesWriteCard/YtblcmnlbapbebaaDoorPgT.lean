/- The shelf's take: the pages of a text are taken, one by one. -/
import Derived.Test.YtblcmnlbapbebaaDoorPgI
import Derived.Test.YtblcmnlbapbebaaDoorPgS
import Derived.Test.YtblcmnlbapbebaaDoorAsd
import Derived.BigRegionIn
import Derived.Test.YtblcmnlbapbebaaDoorRdR
namespace Go.Proofs.YtblcmnlbapbebaaDoor
open Go.RowKit Go.Shelf
attribute [local go_sem] Oper.semAt_some

theorem takeV_at (P : List Pg) (k lf : Nat) (T : List Bool) (hk : k < P.length) : takeV P (k : Int) lf T = if fitB P[k] lf = true ∧ T.getD k false = false then takeV P P[k].next (lf - min lf 40) (T.set k true) else none := by
  rw [takeV, dif_pos (by simpa using hk)]
  simp only [Int.toNat_natCast]
  by_cases h : fitB P[k] lf = true ∧ T.getD k false = false
  · rw [dif_pos h, if_pos h]
  · rw [dif_neg h, if_neg h]
theorem takeV_out0 (P : List Pg) (at_ : Int) (lf : Nat) (T : List Bool) (h : ¬ (0 ≤ at_ ∧ at_.toNat < P.length)) : takeV P at_ lf T = if at_ = -1 ∧ lf = 0 then some T else none := by rw [takeV, dif_neg h]

/-- The blocks that the body keeps. -/
def TC (tb rb b7 b8 : Nat) : Nat → Prop := fun k => k = tb ∨ k = rb ∨ k = b7 ∨ k = b8

/-- Between two rounds. -/
structure TkI (w : World) (P : List Pg) (first : Int) (m : Nat) (T : List Bool) (tb : Nat) (tt : TypeId) (A0 A1 : Array Value) (b7 b8 : Nat) (pre : List (Nat × Pg)) (C : Nat → Prop) (W : World) (lf : Nat) (T1 : List Bool) : Prop where
  cs : C = TC tb (w.heap.size + 2) b7 b8
  eq : takeV P first m T = takeV P (endP first pre) lf T1
  len : T1.length = 96
  row : W.rowIs tb tt 96 (fun j => .bool (T1.getD j false))
  c7 : Blk W b7 #[.int .i64 (endP first pre)] 3
  c8 : Blk W b8 #[.int .i64 (lf : Int)] 3
  res : Blk W (w.heap.size + 2) #[.bool false] 4
  n0 : Blk W w.heap.size A0 40
  n1 : Blk W (w.heap.size + 1) A1 58
  aside : Aside tb w W
  pos : 0 < lf → 40 * pre.length + lf = m
  zero : lf = 0 → 40 * pre.length ≤ m + 39
  ord : tb < w.heap.size ∧ w.heap.size + 2 < b7 ∧ w.heap.size + 2 < b8 ∧ b7 ≠ b8 ∧ b7 < w.heap.size + 5 ∧ b8 < w.heap.size + 5
  size : w.heap.size + 5 ≤ W.heap.size
/-- Left by 'return false'. -/
structure TkX (w : World) (P : List Pg) (first : Int) (m : Nat) (T : List Bool) (tb b7 b8 : Nat) (C : Nat → Prop) (W : World) : Prop where
  cs : C = TC tb (w.heap.size + 2) b7 b8
  none : takeV P first m T = none
  res : Blk W (w.heap.size + 2) #[.bool false] 4
  aside : Aside tb w W
  lt : tb < w.heap.size
  size : w.heap.size + 5 ≤ W.heap.size

theorem TkI.kept {w : World} {P : List Pg} {first : Int} {m : Nat} {T : List Bool} {tb : Nat} {tt : TypeId} {A0 A1 : Array Value} {b7 b8 : Nat} {pre : List (Nat × Pg)} {C : Nat → Prop} {A B : World} {lf : Nat} {T1 : List Bool} {n : Nat}
    (h : TkI w P first m T tb tt A0 A1 b7 b8 pre C A lf T1) (hn : w.heap.size + 5 ≤ n) (hk : Kept (fun k => k < n ∨ C k) A B) : TkI w P first m T tb tt A0 A1 b7 b8 pre C B lf T1 := by
  have ho := h.ord
  have hz := h.size
  have bl : ∀ k, k < w.heap.size + 5 → B.heap[k]? = A.heap[k]? := fun k hk' => hk.block k (by omega) (.inl (by omega))
  refine ⟨h.cs, h.eq, h.len, ?_, (bl _ (by omega)).trans h.c7, (bl _ (by omega)).trans h.c8, (bl _ (by omega)).trans h.res, (bl _ (by omega)).trans h.n0, (bl _ (by omega)).trans h.n1, ?_, h.pos, h.zero, h.ord, Nat.le_trans hz hk.size⟩
  · obtain ⟨cells, hc1, hc⟩ := h.row
    exact ⟨cells, (bl _ (by omega)).trans hc1, hc⟩
  · exact ⟨hk.os.trans h.aside.os, hk.tape.trans h.aside.tape, hk.output.trans h.aside.output, Nat.le_trans h.aside.size hk.size, fun k h1 h2 => (bl k (by omega)).trans (h.aside.block k h1 h2)⟩
theorem TkX.kept {w : World} {P : List Pg} {first : Int} {m : Nat} {T : List Bool} {tb b7 b8 : Nat} {C : Nat → Prop} {A B : World} {n : Nat}
    (h : TkX w P first m T tb b7 b8 C A) (hn : w.heap.size + 5 ≤ n) (hk : Kept (fun k => k < n ∨ C k) A B) : TkX w P first m T tb b7 b8 C B := by
  have hz := h.size
  refine ⟨h.cs, h.none, (hk.block _ h.res.lt (.inl (by omega))).trans h.res, ?_, h.lt, Nat.le_trans hz hk.size⟩
  exact ⟨hk.os.trans h.aside.os, hk.tape.trans h.aside.tape, hk.output.trans h.aside.output, Nat.le_trans h.aside.size hk.size, fun k h1 h2 => (hk.block k (by omega) (.inl (by omega))).trans (h.aside.block k h1 h2)⟩

/-- A round's three stores. -/
theorem TkI.put {w : World} {P : List Pg} {first : Int} {m : Nat} {T : List Bool} {tb : Nat} {tt : TypeId} {A0 A1 : Array Value} {b7 b8 : Nat} {pre : List (Nat × Pg)} {C : Nat → Prop} {W W' : World} {lf : Nat} {T1 : List Bool} {k : Nat} (hk : k < P.length) (hP : P.length = 96)
    (h : TkI w P first m T tb tt A0 A1 b7 b8 pre C W lf T1) (he : (k : Int) = endP first pre) (hf : fitB P[k] lf = true) (ht : T1.getD k false = false)
    (hos : W'.os = W.os) (htp : W'.tape = W.tape) (hout : W'.output = W.output) (hz : W'.heap.size = W.heap.size) (hb : ∀ j, j ≠ tb → j ≠ b7 → j ≠ b8 → W'.heap[j]? = W.heap[j]?)
    (hrow : W'.rowIs tb tt 96 (fun j => if j = k then .bool true else .bool (T1.getD j false))) (h7 : Blk W' b7 #[.int .i64 P[k].next] 3) (h8 : Blk W' b8 #[.int .i64 ((lf - min lf 40 : Nat) : Int)] 3) :
    Left (fun pre C W => ∃ lf T1, TkI w P first m T tb tt A0 A1 b7 b8 pre C W lf T1) C (pre ++ [(k, P[k])]) W W' := by
  have hC := h.cs
  have ho := h.ord
  have hsz := h.size
  subst hC
  have hl := (fitB_out hf).2.2
  have hp := h.pos hl
  refine ⟨TC tb (w.heap.size + 2) b7 b8, ⟨lf - min lf 40, T1.set k true, rfl, ?_, ?_, ?_, ?_, h8, ?_, ?_, ?_, ?_, ?_, ?_, h.ord, by omega⟩, ?_, fun j hj => .inl hj, ?_⟩
  · rw [h.eq, ← he, takeV_at P k lf T1 hk, if_pos ⟨hf, ht⟩, endP_snoc]
  · rw [List.length_set]; exact h.len
  · refine hrow.congr fun j _ => ?_
    rw [set_getD _ _ _ (by have := h.len; omega)]
    by_cases e : j = k
    · rw [if_pos e, if_pos e]
    · rw [if_neg e, if_neg e]
  · rw [endP_snoc]; exact h7
  · exact (hb _ (by omega) (by omega) (by omega)).trans h.res
  · exact (hb _ (by omega) (by omega) (by omega)).trans h.n0
  · exact (hb _ (by omega) (by omega) (by omega)).trans h.n1
  · exact ⟨hos.trans h.aside.os, htp.trans h.aside.tape, hout.trans h.aside.output, by rw [hz]; exact h.aside.size, fun j h1 h2 => (hb j h2 (by omega) (by omega)).trans (h.aside.block j h1 h2)⟩
  · intro h0; rw [List.length_append]; simp; omega
  · intro h0; rw [List.length_append]; simp; omega
  · exact ⟨hos, htp, hout, by omega, fun j _ hn => hb j (fun e => hn (.inl e)) (fun e => hn (.inr (.inr (.inl e)))) (fun e => hn (.inr (.inr (.inr e))))⟩
  · rintro j (e | e | e | e) <;> omega

theorem TkI.stop {w : World} {P : List Pg} {first : Int} {m : Nat} {T : List Bool} {tb : Nat} {tt : TypeId} {A0 A1 : Array Value} {b7 b8 : Nat} {pre : List (Nat × Pg)} {C : Nat → Prop} {W : World} {lf : Nat} {T1 : List Bool} {k : Nat} {xs : List (Nat × Pg)} (hk : k < P.length)
    (h : TkI w P first m T tb tt A0 A1 b7 b8 pre C W lf T1) (he : (k : Int) = endP first pre) (hf : ¬ (fitB P[k] lf = true ∧ T1.getD k false = false)) :
    Left ((fun (c : Code) (_ : List (Nat × Pg)) C W => c = .ret ∧ TkX w P first m T tb b7 b8 C W) .ret) C xs W (W.setCell ⟨w.heap.size + 2, 0, none⟩ (.bool false)) := by
  have hC := h.cs
  have ho := h.ord
  have hsz := h.size
  subst hC
  refine ⟨TC tb (w.heap.size + 2) b7 b8, ⟨rfl, rfl, ?_, h.res.set 0 _, ?_, ho.1, by simp [World.setCell]; omega⟩, ?_, fun j hj => .inl hj, ?_⟩
  · rw [h.eq, ← he, takeV_at P k lf T1 hk, if_neg hf]
  · exact h.aside.set (.inr (by show _ ≤ w.heap.size + 2; omega)) _
  · exact ⟨rfl, rfl, rfl, by simp [World.setCell], fun j _ hn => Below.heap_setCell _ _ _ _ (by show j ≠ w.heap.size + 2; exact fun e => hn (.inr (.inl e)))⟩
  · have hz : (W.setCell ⟨w.heap.size + 2, 0, none⟩ (.bool false)).heap.size = W.heap.size := by simp [World.setCell]
    rintro j (e | e | e | e) <;> omega

theorem TkI.fin {w : World} {P : List Pg} {first : Int} {m : Nat} {T : List Bool} {tb : Nat} {tt : TypeId} {A0 A1 : Array Value} {b7 b8 : Nat} {pre : List (Nat × Pg)} {C : Nat → Prop} {W : World} {lf : Nat} {T1 : List Bool} {k : Nat} (hk : k < P.length) (hP : P.length = 96)
    (h : TkI w P first m T tb tt A0 A1 b7 b8 pre C W lf T1) (he : (k : Int) = endP first pre) (hf : fitB P[k] lf = true) (ht : T1.getD k false = false) :
    Left (fun pre C W => ∃ lf T1, TkI w P first m T tb tt A0 A1 b7 b8 pre C W lf T1) C (pre ++ [(k, P[k])]) W (((W.setCell ⟨tb, k, none⟩ (.bool true)).drew.setCell ⟨b7, 0, none⟩ (.int .i64 P[k].next)).setCell ⟨b8, 0, none⟩ (.int .i64 ((lf - min lf 40 : Nat) : Int))) := by
  have ho := h.ord
  have h1 : ∀ j : Nat, (W.setCell ⟨tb, k, none⟩ (.bool true)).drew.heap[j]? = (W.setCell ⟨tb, k, none⟩ (.bool true)).heap[j]? := fun j => rfl
  refine h.put hk hP he hf ht rfl rfl rfl ?_ (fun j j1 j2 j3 => ?_) ?_ ?_ ?_
  · show ((((W.setCell ⟨tb, k, none⟩ (.bool true)).drew.setCell ⟨b7, 0, none⟩ (.int .i64 P[k].next)).setCell ⟨b8, 0, none⟩ (.int .i64 ((lf - min lf 40 : Nat) : Int)))).heap.size = _
    simp [World.setCell, World.drew]
  · rw [Below.heap_setCell _ _ _ _ j3, Below.heap_setCell _ _ _ _ j2, h1, Below.heap_setCell _ _ _ _ j1]
  · obtain ⟨cells, hc1, hc⟩ := h.row.set k (.bool true)
    exact ⟨cells, by rw [Below.heap_setCell _ _ _ _ (by show tb ≠ b8; omega), Below.heap_setCell _ _ _ _ (by show tb ≠ b7; omega), h1]; exact hc1, hc⟩
  · have q : Blk (W.setCell ⟨tb, k, none⟩ (.bool true)).drew b7 _ _ := h.c7.other ⟨tb, k, none⟩ (.bool true) (by show b7 ≠ tb; omega)
    exact (q.set 0 (.int .i64 P[k].next)).other _ _ (by show b7 ≠ b8; omega)
  · have q : Blk (W.setCell ⟨tb, k, none⟩ (.bool true)).drew b8 _ _ := h.c8.other ⟨tb, k, none⟩ (.bool true) (by show b8 ≠ tb; omega)
    exact (q.other ⟨b7, 0, none⟩ (.int .i64 P[k].next) (by show b8 ≠ b7; omega)).set 0 _

/-- The boxes are laid. -/
structure TkV (w V : World) (A0 A1 : Array Value) (first : Int) (m : Nat) (b7 b8 : Nat) : Prop where
  below : Below w.heap.size w V
  n0 : Blk V w.heap.size A0 40
  n1 : Blk V (w.heap.size + 1) A1 58
  res : Blk V (w.heap.size + 2) #[.bool false] 4
  c7 : Blk V b7 #[.int .i64 first] 3
  c8 : Blk V b8 #[.int .i64 (m : Int)] 3
  size : V.heap.size = w.heap.size + 5
  ord : w.heap.size + 2 < b7 ∧ w.heap.size + 2 < b8 ∧ b7 ≠ b8 ∧ b7 < w.heap.size + 5 ∧ b8 < w.heap.size + 5
theorem TkV.drew {w V : World} {A0 A1 : Array Value} {first : Int} {m b7 b8 : Nat} (h : TkV w V A0 A1 first m b7 b8) : TkV w V.drew A0 A1 first m b7 b8 :=
  ⟨h.below.drew, h.n0, h.n1, h.res, h.c7, h.c8, h.size, h.ord⟩
theorem tk_below (w : World) (o0 o1 o2 o3 o4 : Obj) : Below w.heap.size w (((((w.alloc o0).alloc o1).alloc o2).alloc o3).alloc o4) :=
  (((((Below.refl _ _).alloc (Nat.le_refl _) o0).alloc (by simp) o1).alloc (by simp; omega) o2).alloc (by simp; omega) o3).alloc (by simp; omega) o4
theorem tkV_one (w : World) (A0 A1 : Array Value) (first : Int) (m : Nat) : TkV w (((((w.alloc (.cells A0 40)).alloc (.cells A1 58)).alloc (.cells #[.bool false] 4)).alloc (.cells #[.int .i64 first] 3)).alloc (.cells #[.int .i64 (m : Int)] 3)) A0 A1 first m (w.heap.size + 1 + 1 + 1) (w.heap.size + 1 + 1 + 1 + 1) :=
  ⟨tk_below w _ _ _ _ _, ((((Blk.new w _ _).alloc _).alloc _).alloc _).alloc _, (((Blk.atn (by simp)).alloc _).alloc _).alloc _, ((Blk.atn (by simp)).alloc _).alloc _, (Blk.atn (by simp)).alloc _, Blk.atn (by simp), by simp, by omega⟩
theorem tkV_two (w : World) (A0 A1 : Array Value) (first : Int) (m : Nat) : TkV w (((((w.alloc (.cells A0 40)).alloc (.cells A1 58)).alloc (.cells #[.bool false] 4)).alloc (.cells #[.int .i64 (m : Int)] 3)).alloc (.cells #[.int .i64 first] 3)) A0 A1 first m (w.heap.size + 1 + 1 + 1 + 1) (w.heap.size + 1 + 1 + 1) :=
  ⟨tk_below w _ _ _ _ _, ((((Blk.new w _ _).alloc _).alloc _).alloc _).alloc _, (((Blk.atn (by simp)).alloc _).alloc _).alloc _, ((Blk.atn (by simp)).alloc _).alloc _, Blk.atn (by simp), (Blk.atn (by simp)).alloc _, by simp, by omega⟩

/-- What take answers. -/
def TakePost (w : World) (P : List Pg) (first : Int) (m : Nat) (T : List Bool) (tb : Nat) (tt : TypeId) (e : Ending) (w' : World) : Prop :=
  ∃ b, e = .returned (.bool b) ∧ Aside tb w w' ∧ (takeV P first m T = none → b = false) ∧ ∀ T', takeV P first m T = some T' → b = true ∧ T'.length = 96 ∧ w'.rowIs tb tt 96 (fun j => .bool (T'.getD j false))

theorem tk_put {W : World} {b : Nat} {A : Array Value} {t : TypeId} (h : Blk W b A t) {d : Nat} {o : Obj} (hd : b ≠ d) : Blk (W.putObj d o) b A t := (World.putObj_heap_other hd).trans h
theorem tk_aside {w W : World} {tb d : Nat} {o : Obj} (h : Aside tb w W) (hd : w.heap.size ≤ d) : Aside tb w (W.putObj d o) := by
  have g := grownBy_putObj' W d o
  exact ⟨g.os.trans h.os, g.tape.trans h.tape, g.output.trans h.output, Nat.le_trans h.size g.size, fun k h1 h2 => (World.putObj_heap_other (by omega)).trans (h.block k h1 h2)⟩

set_option maxRecDepth 100000 in
set_option maxHeartbeats 8000000 in
theorem take_any (P : List Pg) (first : Int) (m : Nat) (nm : ByteArray) (T : List Bool) (sb lb cap tb : Nat) (tt : TypeId) (w : World) (hP : P.length = 96) (hm : m ≤ 3000) (hsz : ∀ (i : Nat) (h : i < P.length), P[i].data.size ≤ maxLen)
    (hc : w.cell? ⟨sb, 0, none⟩ = some (.slice (some ⟨lb, 0, none⟩) 96 cap)) (hcells : ∀ (i : Nat) (h : i < P.length), w.cell? ⟨lb, i * 3, none⟩ = some (.bool P[i].used) ∧ w.cell? ⟨lb, i * 3 + 1, none⟩ = some (.string P[i].data) ∧ w.cell? ⟨lb, i * 3 + 2, none⟩ = some (.int .i64 P[i].next))
    (hT : T.length = 96) (hrow : w.rowIs tb tt 96 (fun j => .bool (T.getD j false))) (hne : tb ≠ sb ∧ tb ≠ lb) (hsb : sb < w.heap.size) (hlb : lb < w.heap.size) :
    Calls Tryd.prog 31 #[.pointer (some ⟨sb, 0, none⟩), .agg #[.string nm, .int .i64 first, .int .i64 (m : Int)], .slice (some ⟨tb, 0, none⟩) 96 96] w (fun e w' => TakePost w P first m T tb tt e w') := by
  have HRow := hide hrow
  have HCell := hide hcells
  have HCh := hide (fun (W : World) => chain_any sb first W)
  clear hrow hcells
  refine (callsIn_wide (n := 9)).1 ?_
  refine callsIn_of_wp_marks Tryd.func31 rfl trivial ?_ rfl
  simp only [Tryd.ntmps31, List.size_toArray, List.length_cons, List.length_nil, Nat.reduceAdd, Nat.reduceSub, Array.replicate_succ, Array.replicate_zero, List.push_toArray, List.append_toArray, List.nil_append, List.cons_append]
  gi_wp2
  gi_region
  · generalize hV : (((((w.alloc (.cells #[.string nm, .int .i64 first, .int .i64 (m : Int)] 40)).alloc (.cells #[.slice (some ⟨tb, 0, none⟩) 96 96] 58)).alloc (.cells #[.bool false] 4)).alloc (.cells #[.int .i64 first] 3)).alloc (.cells #[.int .i64 (m : Int)] 3)).drew = V
    have HV : Hid (TkV w V #[.string nm, .int .i64 first, .int .i64 (m : Int)] #[.slice (some ⟨tb, 0, none⟩) 96 96] first m (w.heap.size + 1 + 1 + 1) (w.heap.size + 1 + 1 + 1 + 1)) := by
      subst hV
      exact (tkV_one w _ _ first m).drew
    generalize w.heap.size + 1 + 1 + 1 + 1 = b8 at HV ⊢
    generalize w.heap.size + 1 + 1 + 1 = b7 at HV ⊢
    have y0 := HV.out.n0.cell 1 _ rfl
    gi_wp2_with (refine ⟨trivial, ?_⟩; gi_at_call 42; refine (callsIn_wide.2 (HCh.out _)).mono ?_; rintro e w3 ⟨rfl, rfl⟩)
    clear y0
    obtain ⟨W0, hW0⟩ : ∃ W0, (V.alloc (Obj.cells #[Value.pointer (some ⟨sb, 0, none⟩)] 44)).alloc (Obj.cells #[Value.int .i64 first] 3) = W0 := ⟨_, rfl⟩
    have HB0 : Hid (Below V.heap.size V W0 ∧ W0.heap.size = V.heap.size + 2) := by subst hW0; exact ⟨((Below.refl _ _).alloc (Nat.le_refl _) _).alloc (by simp) _, by simp⟩
    have HT0 : Hid (Blk W0 V.heap.size #[.pointer (some ⟨sb, 0, none⟩)] 44 ∧ Blk W0 (V.heap.size + 1) #[.int .i64 first] 3) := by subst hW0; exact ⟨(Blk.new _ _ _).alloc _, Blk.atn (by simp)⟩
    have htbl : tb < w.heap.size := HRow.out.lt
    have HI0 : Hid (TkI w P first m T tb tt #[.string nm, .int .i64 first, .int .i64 (m : Int)] #[.slice (some ⟨tb, 0, none⟩) 96 96] b7 b8 [] (TC tb (w.heap.size + 2) b7 b8) W0 m T) := by
      have ho := HV.out.ord
      have hz := HV.out.size
      have hbw := HV.out.below.trans (HB0.out.1.mono (by omega))
      refine ⟨rfl, by rw [endP_nil], hT, ?_, HV.out.c7.below HB0.out.1 HV.out.c7.lt, HV.out.c8.below HB0.out.1 HV.out.c8.lt, HV.out.res.below HB0.out.1 HV.out.res.lt, HV.out.n0.below HB0.out.1 HV.out.n0.lt, HV.out.n1.below HB0.out.1 HV.out.n1.lt, ?_, by intro _; simp, by intro _; simp, ⟨htbl, ho⟩, by have := HB0.out.2; omega⟩
      · obtain ⟨cells, hc1, hc2⟩ := HRow.out
        exact ⟨cells, (hbw.block _ htbl).trans hc1, hc2⟩
      · exact ⟨hbw.os, hbw.tape, hbw.output, hbw.size, fun k h1 _ => hbw.block k h1⟩
    have HBW : Hid (Below w.heap.size w W0) := HV.out.below.trans (HB0.out.1.mono (by have := HV.out.size; omega))
    rw [hW0]
    clear hW0
    refine rf_law (gf := 50) (lb := #[.pointer (some ⟨V.heap.size + 1, 0, none⟩), .pointer (some ⟨V.heap.size, 0, none⟩)]) rfl (enters_of Tryd.func50 (by kernel_rfl) rfl)
      (chain_seq P first (V.heap.size + 1) V.heap.size sb lb cap W0 hP (by have := HB0.out.2; omega) (by have := HB0.out.2; omega) (by have := HBW.out.size; omega) (by have := HBW.out.size; omega) (HT0.out.2.cell 0 _ rfl) (HT0.out.1.cell 0 _ rfl) ((HBW.out.cell (p := ⟨sb, 0, none⟩) hsb).trans hc)
        (fun i hi => by
          obtain ⟨q0, q1, q2⟩ := HCell.out i hi
          exact ⟨(HBW.out.cell (p := ⟨lb, i * 3, none⟩) hlb).trans q0, (HBW.out.cell (p := ⟨lb, i * 3 + 1, none⟩) hlb).trans q1, (HBW.out.cell (p := ⟨lb, i * 3 + 2, none⟩) hlb).trans q2⟩))
      (Below.refl _ _) (fun _ => rfl) (fun _ _ _ _ _ h _ => h) (fun _ _ _ _ _ h _ => h)
      (TC tb (w.heap.size + 2) b7 b8) ?hD ?hC0
      (fun pre C W => ∃ lf T1, TkI w P first m T tb tt #[.string nm, .int .i64 first, .int .i64 (m : Int)] #[.slice (some ⟨tb, 0, none⟩) 96 96] b7 b8 pre C W lf T1) (fun c _ C W => c = .ret ∧ TkX w P first m T tb b7 b8 C W)
      (fun pre C A B ⟨lf, T1, h⟩ hk => ⟨lf, T1, h.kept (by have := HB0.out.2; have := HV.out.size; omega) hk⟩) (fun c pre C A B h hk => ⟨h.1, h.2.kept (by have := HB0.out.2; have := HV.out.size; omega) hk⟩)
      ⟨_, _, HI0.out⟩
      (fun x a' A => ∃ pb, w.heap.size + 5 ≤ pb ∧ Blk A pb #[.bool x.2.used, .string x.2.data, .int .i64 x.2.next] 64 ∧ a' = { tmps := #[.pointer (some ⟨sb, 0, none⟩), .agg #[.string nm, .int .i64 first, .int .i64 (m : Int)], .slice (some ⟨tb, 0, none⟩) 96 96, undef, .pointer (some ⟨w.heap.size, 0, none⟩), .pointer (some ⟨w.heap.size + 1, 0, none⟩), .pointer (some ⟨w.heap.size + 1 + 1, 0, none⟩), .pointer (some ⟨b7, 0, none⟩), .pointer (some ⟨b8, 0, none⟩), .int .i64 (x.1 : Int), .pointer (some ⟨pb, 0, none⟩), undef, .pointer (some ⟨w.heap.size, 1, none⟩), .int .i64 first, .pointer (some ⟨w.heap.size, 2, none⟩), .int .i64 (m : Int), .pointer (some ⟨sb, 0, none⟩), .pointer (some ⟨w.heap.size, 1, none⟩), .int .i64 first, .func (.func 50) #[] #[.pointer (some ⟨V.heap.size + 1, 0, none⟩), .pointer (some ⟨V.heap.size, 0, none⟩)], .int .i64 (x.1 : Int), aPg x.2, undef, undef, undef, undef, undef, undef, undef, undef, undef, undef, undef, undef, undef, undef, undef, undef, undef, undef, undef, undef, undef, undef, undef, undef, undef, undef, undef, undef, undef, undef, undef, undef, undef, undef, undef, undef], defers := [] })
      (fun x a' A l r o hl ⟨pb, h1, h2, h3⟩ => ⟨pb, h1, (World.putObj_heap_other (fun e => by subst e; unfold Blk at h2; rw [hl] at h2; cases h2)).trans h2, h3⟩) ?assign ?body ?done ?stop
    case hD =>
      have h1 := HV.out.size
      have h2 := HB0.out.2
      have h3 := HV.out.ord
      rintro k (rfl | rfl | rfl | rfl) <;> (refine ⟨by omega, ?_⟩; rintro (h | h | h | h) <;> omega)
    case hC0 =>
      have h1 := HV.out.size
      have h2 := HB0.out.2
      have h3 := HV.out.ord
      rintro k (h | h | h | h) <;> omega
    case assign =>
      rintro l pre x C W K ⟨lf, T1, hI⟩ _ hK
      have hz := hI.size
      clear hI
      dsimp only [encP]
      gi_wp2
      exact hK _ _ ((Below.refl _ _).alloc (Nat.le_refl _) _) ⟨W.heap.size, hz, Blk.new W _ _, rfl⟩
    case body =>
      rintro l2 pre x C a' W ⟨lf, T1, hI⟩ hx hC ⟨pb, hpb, hpg, rfl⟩ hl hr
      obtain ⟨k, p⟩ := x
      obtain ⟨he0, hkP0, hpe0⟩ := hx
      have HE : Hid ((k : Int) = endP first pre) := he0
      have hkP : k < P.length := hkP0
      have hpe : P[k] = p := hpe0
      subst hpe
      have HI := hide hI
      clear hI hC hl hr HI0 HT0 he0 hkP0 hpe0
      have ho := HI.out.ord
      have hzW := HI.out.size
      have hk96 : k < 96 := by omega
      have hkI : (k : Int) < 96 := by omega
      have g0 := hpg.cell 0 _ rfl
      have g1 := hpg.cell 1 _ rfl
      have g2 := hpg.cell 2 _ rfl
      have x8 := HI.out.c8.cell 0 _ rfl
      have x8f := HI.out.c8.frozen 0
      have x7 := HI.out.c7.cell 0 _ rfl
      have x7f := HI.out.c7.frozen 0
      have x5 : W.cell? ⟨w.heap.size + 1, 0, none⟩ = some (.slice (some ⟨tb, 0, none⟩) 96 96) := HI.out.n1.cell 0 _ rfl
      have x6 : W.cell? ⟨w.heap.size + 1 + 1, 0, none⟩ = some (.bool false) := HI.out.res.cell 0 _ rfl
      have x6f : W.frozen? ⟨w.heap.size + 1 + 1, 0, none⟩ = false := HI.out.res.frozen 0
      have r0 := HI.out.row.cell hk96
      have r1 := HI.out.row.frozen k
      have HPg := hide hpg
      have hds := hsz k hkP
      unfold maxLen at hds
      dsimp only at g0 g1 g2
      clear hpg
      rcases (by omega : lf = 0 ∨ (40 < lf ∧ min lf 40 = 40) ∨ (0 < lf ∧ lf ≤ 40 ∧ min lf 40 = lf)) with rfl | ⟨h40, hmm⟩ | ⟨h0, h40, hmm⟩
      · have hnf : ¬ (fitB P[k] 0 = true ∧ T1.getD k false = false) := fun h => by rw [fitB_zero rfl] at h; cases h.1
        gi_wp2
        all_goals exact HI.out.stop (xs := pre ++ [(k, P[k])]) hkP HE.out hnf
      · have h40I : (40 : Int) < (lf : Int) := by omega
        have hmin : min (lf : Int) 40 = 40 := by omega
        cases htk : T1.getD k false with
        | true =>
          rw [htk] at r0
          have hnf : ¬ (fitB P[k] lf = true ∧ T1.getD k false = false) := fun h => by rw [htk] at h; cases h.2
          gi_wp2
          all_goals exact HI.out.stop (xs := pre ++ [(k, P[k])]) hkP HE.out hnf
        | false =>
          rw [htk] at r0
          have HTk := hide htk
          cases hu : P[k].used with
          | false =>
            have hnf : ¬ (fitB P[k] lf = true ∧ T1.getD k false = false) := fun h => by rw [fitB_used hu] at h; cases h.1
            rw [hu] at g0
            gi_wp2
            all_goals exact HI.out.stop (xs := pre ++ [(k, P[k])]) hkP HE.out hnf
          | true =>
            have HU := hide hu
            rw [hu] at g0
            clear hu htk
            by_cases hsd : P[k].data.size = 40
            · have hnd : (((P[k].data.size : Nat) : Int) != 40) = false := by simp; omega
              have HF : Hid (fitB P[k] lf = true) := fitB_yes HU.out (by rw [hmm]; exact hsd) (by omega)
              gi_wp2
              have HFin := hide (HI.out.fin hkP hP HE.out HF.out HTk.out)
              generalize hW1 : W.setCell ⟨tb, k, none⟩ (.bool true) = W1 at HFin ⊢
              have ne1 : ∀ (b j : Nat), b ≠ tb → W1.drew.cell? ⟨b, j, none⟩ = W.cell? ⟨b, j, none⟩ ∧ W1.drew.frozen? ⟨b, j, none⟩ = W.frozen? ⟨b, j, none⟩ := fun b j hb => by
                rw [← hW1]; exact ⟨World.cell?_setCell_other _ _ _ _ (by intro h; injection h with h2 _ _; omega), World.frozen?_setCell _ _ _ _⟩
              have e2 : W1.drew.cell? ⟨pb, 2, none⟩ = some (.int .i64 P[k].next) := (ne1 pb 2 (by omega)).1.trans g2
              have e8 : W1.drew.cell? ⟨b8, 0, none⟩ = some (.int .i64 (lf : Int)) := (ne1 b8 0 (by omega)).1.trans x8
              have f8 : W1.drew.frozen? ⟨b8, 0, none⟩ = false := (ne1 b8 0 (by omega)).2.trans x8f
              have e7 : W1.drew.cell? ⟨b7, 0, none⟩ = some (.int .i64 (endP first pre)) := (ne1 b7 0 (by omega)).1.trans x7
              have f7 : W1.drew.frozen? ⟨b7, 0, none⟩ = false := (ne1 b7 0 (by omega)).2.trans x7f
              have d8 : (W1.drew.setCell ⟨b7, 0, none⟩ (.int .i64 P[k].next)).cell? ⟨b8, 0, none⟩ = some (.int .i64 (lf : Int)) := (World.cell?_setCell_other _ _ _ _ (by intro h; injection h with h2 _ _; omega)).trans e8
              have dd8 : (W1.drew.setCell ⟨b7, 0, none⟩ (.int .i64 P[k].next)).frozen? ⟨b8, 0, none⟩ = false := (World.frozen?_setCell _ _ _ _).trans f8
              have hR : Hid (IntKind.i64.wrap ((lf : Int) - 40) = ((lf - min lf 40 : Nat) : Int)) := by have := HI.out.pos (by omega); show _ = _; rw [IntKind.wrap_i64]; omega
              clear ne1 hW1
              refine wpIn_region_any (by kernel_rfl) (any_round (by kernel_rfl) _ _ _ _ ?_)
              show wpAnyIn Fence.wide 8 Tryd.prog .any _ _ 7 #[false, false, false, false, false, false, false] _ W1.drew
              refine wpAnyIn_take (i := 0) (v := .pointer (some ⟨pb, 2, none⟩)) rfl rfl (by kernel_rfl) (by kernel_rfl) (by kernel_rfl) (fun _ _ _ h => h) ⟨Or.inl ⟨by kernel_rfl, fun _ => by kernel_rfl⟩, fun _ => rfl⟩ ?_
              refine wpAnyIn_take (i := 3) (v := .int .i64 40) rfl rfl (by kernel_rfl) (by kernel_rfl) (by kernel_rfl) (fun _ _ _ h => h) ⟨Or.inl ⟨by kernel_rfl, fun _ => by kernel_rfl⟩, fun _ => rfl⟩ ?_
              refine wpAnyIn_ready (rs := [1, 2]) (by kernel_rfl) (by simp) (AllReadyIn.cons rfl (fun K hK => ?q1x1) (AllReadyIn.cons rfl (fun K hK => ?q2x1) (AllReadyIn.nil)))
              case q1x1 =>
                refine ri_load (x := 47) (p := ⟨pb, 2, none⟩) (i := P[k].next) (by kernel_rfl) (by kernel_rfl) (by kernel_rfl) e2 (hK _ _ ?_)
                refine wpAnyIn_ready (rs := [2, 5]) (by kernel_rfl) (by simp) (AllReadyIn.cons rfl (fun K hK => ?q2x2) (AllReadyIn.cons rfl (fun K hK => ?q5x2) (AllReadyIn.nil)))
                case q2x2 =>
                  refine ri_load (x := 8) (p := ⟨b8, 0, none⟩) (i := (lf : Int)) (by kernel_rfl) (by kernel_rfl) (by kernel_rfl) e8 (hK _ _ ?_)
                  refine wpAnyIn_take (i := 4) (v := .int .i64 ((lf - min lf 40 : Nat) : Int)) rfl rfl (by kernel_rfl) (by kernel_rfl) (by kernel_rfl) (fun _ _ _ h => h) ⟨Or.inl ⟨by kernel_rfl, yi_sub (x := 49) (y := 50) (i := (lf : Int)) (j := 40) (by kernel_rfl) (by kernel_rfl) (by kernel_rfl) hR.out⟩, fun _ => rfl⟩ ?_
                  refine wpAnyIn_ready (rs := [5]) (by kernel_rfl) (by simp) (AllReadyIn.cons rfl (fun K hK => ?q5x3) (AllReadyIn.nil))
                  case q5x3 =>
                    refine ri_store (x := 7) (y := 48) (p := ⟨b7, 0, none⟩) (i := endP first pre) (j := P[k].next) (by kernel_rfl) (by kernel_rfl) (by kernel_rfl) (by kernel_rfl) e7 f7 (hK _ _ ?_)
                    refine wpAnyIn_ready (rs := [6]) (by kernel_rfl) (by simp) (AllReadyIn.cons rfl (fun K hK => ?q6x4) (AllReadyIn.nil))
                    case q6x4 =>
                      refine ri_store (x := 8) (y := 51) (p := ⟨b8, 0, none⟩) (i := (lf : Int)) (j := ((lf - min lf 40 : Nat) : Int)) (by kernel_rfl) (by kernel_rfl) (by kernel_rfl) (by kernel_rfl) d8 dd8 (hK _ _ ?_)
                      exact wpAnyIn_done (by kernel_rfl) HFin.out _
                case q5x2 =>
                  refine ri_store (x := 7) (y := 48) (p := ⟨b7, 0, none⟩) (i := endP first pre) (j := P[k].next) (by kernel_rfl) (by kernel_rfl) (by kernel_rfl) (by kernel_rfl) e7 f7 (hK _ _ ?_)
                  refine wpAnyIn_ready (rs := [2]) (by kernel_rfl) (by simp) (AllReadyIn.cons rfl (fun K hK => ?q2x5) (AllReadyIn.nil))
                  case q2x5 =>
                    refine ri_load (x := 8) (p := ⟨b8, 0, none⟩) (i := (lf : Int)) (by kernel_rfl) (by kernel_rfl) (by kernel_rfl) d8 (hK _ _ ?_)
                    refine wpAnyIn_take (i := 4) (v := .int .i64 ((lf - min lf 40 : Nat) : Int)) rfl rfl (by kernel_rfl) (by kernel_rfl) (by kernel_rfl) (fun _ _ _ h => h) ⟨Or.inl ⟨by kernel_rfl, yi_sub (x := 49) (y := 50) (i := (lf : Int)) (j := 40) (by kernel_rfl) (by kernel_rfl) (by kernel_rfl) hR.out⟩, fun _ => rfl⟩ ?_
                    refine wpAnyIn_ready (rs := [6]) (by kernel_rfl) (by simp) (AllReadyIn.cons rfl (fun K hK => ?q6x6) (AllReadyIn.nil))
                    case q6x6 =>
                      refine ri_store (x := 8) (y := 51) (p := ⟨b8, 0, none⟩) (i := (lf : Int)) (j := ((lf - min lf 40 : Nat) : Int)) (by kernel_rfl) (by kernel_rfl) (by kernel_rfl) (by kernel_rfl) d8 dd8 (hK _ _ ?_)
                      exact wpAnyIn_done (by kernel_rfl) HFin.out _
              case q2x1 =>
                refine ri_load (x := 8) (p := ⟨b8, 0, none⟩) (i := (lf : Int)) (by kernel_rfl) (by kernel_rfl) (by kernel_rfl) e8 (hK _ _ ?_)
                refine wpAnyIn_take (i := 4) (v := .int .i64 ((lf - min lf 40 : Nat) : Int)) rfl rfl (by kernel_rfl) (by kernel_rfl) (by kernel_rfl) (fun _ _ _ h => h) ⟨Or.inl ⟨by kernel_rfl, yi_sub (x := 49) (y := 50) (i := (lf : Int)) (j := 40) (by kernel_rfl) (by kernel_rfl) (by kernel_rfl) hR.out⟩, fun _ => rfl⟩ ?_
                refine wpAnyIn_ready (rs := [1]) (by kernel_rfl) (by simp) (AllReadyIn.cons rfl (fun K hK => ?q1x7) (AllReadyIn.nil))
                case q1x7 =>
                  refine ri_load (x := 47) (p := ⟨pb, 2, none⟩) (i := P[k].next) (by kernel_rfl) (by kernel_rfl) (by kernel_rfl) e2 (hK _ _ ?_)
                  refine wpAnyIn_ready (rs := [5]) (by kernel_rfl) (by simp) (AllReadyIn.cons rfl (fun K hK => ?q5x8) (AllReadyIn.nil))
                  case q5x8 =>
                    refine ri_store (x := 7) (y := 48) (p := ⟨b7, 0, none⟩) (i := endP first pre) (j := P[k].next) (by kernel_rfl) (by kernel_rfl) (by kernel_rfl) (by kernel_rfl) e7 f7 (hK _ _ ?_)
                    refine wpAnyIn_ready (rs := [6]) (by kernel_rfl) (by simp) (AllReadyIn.cons rfl (fun K hK => ?q6x9) (AllReadyIn.nil))
                    case q6x9 =>
                      refine ri_store (x := 8) (y := 51) (p := ⟨b8, 0, none⟩) (i := (lf : Int)) (j := ((lf - min lf 40 : Nat) : Int)) (by kernel_rfl) (by kernel_rfl) (by kernel_rfl) (by kernel_rfl) d8 dd8 (hK _ _ ?_)
                      exact wpAnyIn_done (by kernel_rfl) HFin.out _
            · have hnd : (((P[k].data.size : Nat) : Int) != 40) = true := by simp; omega
              have hnf : ¬ (fitB P[k] lf = true ∧ T1.getD k false = false) := fun h => by rw [fitB_size (by rw [hmm]; exact hsd)] at h; cases h.1
              gi_wp2
              all_goals exact HI.out.stop (xs := pre ++ [(k, P[k])]) hkP HE.out hnf
      · have h40I : ¬ (40 : Int) < (lf : Int) := by omega
        have hmin : min (lf : Int) 40 = (lf : Int) := by omega
        have hz0 : ((lf : Int) == 0) = false := by simp; omega
        cases htk : T1.getD k false with
        | true =>
          rw [htk] at r0
          have hnf : ¬ (fitB P[k] lf = true ∧ T1.getD k false = false) := fun h => by rw [htk] at h; cases h.2
          gi_wp2
          all_goals exact HI.out.stop (xs := pre ++ [(k, P[k])]) hkP HE.out hnf
        | false =>
          rw [htk] at r0
          have HTk := hide htk
          cases hu : P[k].used with
          | false =>
            have hnf : ¬ (fitB P[k] lf = true ∧ T1.getD k false = false) := fun h => by rw [fitB_used hu] at h; cases h.1
            rw [hu] at g0
            gi_wp2
            all_goals exact HI.out.stop (xs := pre ++ [(k, P[k])]) hkP HE.out hnf
          | true =>
            have HU := hide hu
            rw [hu] at g0
            clear hu htk
            by_cases hsd : P[k].data.size = lf
            · have hnd : (((P[k].data.size : Nat) : Int) != (lf : Int)) = false := by simp; omega
              have HF : Hid (fitB P[k] lf = true) := fitB_yes HU.out (by rw [hmm]; exact hsd) (by omega)
              gi_wp2
              have HFin := hide (HI.out.fin hkP hP HE.out HF.out HTk.out)
              generalize hW1 : W.setCell ⟨tb, k, none⟩ (.bool true) = W1 at HFin ⊢
              have ne1 : ∀ (b j : Nat), b ≠ tb → W1.drew.cell? ⟨b, j, none⟩ = W.cell? ⟨b, j, none⟩ ∧ W1.drew.frozen? ⟨b, j, none⟩ = W.frozen? ⟨b, j, none⟩ := fun b j hb => by
                rw [← hW1]; exact ⟨World.cell?_setCell_other _ _ _ _ (by intro h; injection h with h2 _ _; omega), World.frozen?_setCell _ _ _ _⟩
              have e2 : W1.drew.cell? ⟨pb, 2, none⟩ = some (.int .i64 P[k].next) := (ne1 pb 2 (by omega)).1.trans g2
              have e8 : W1.drew.cell? ⟨b8, 0, none⟩ = some (.int .i64 (lf : Int)) := (ne1 b8 0 (by omega)).1.trans x8
              have f8 : W1.drew.frozen? ⟨b8, 0, none⟩ = false := (ne1 b8 0 (by omega)).2.trans x8f
              have e7 : W1.drew.cell? ⟨b7, 0, none⟩ = some (.int .i64 (endP first pre)) := (ne1 b7 0 (by omega)).1.trans x7
              have f7 : W1.drew.frozen? ⟨b7, 0, none⟩ = false := (ne1 b7 0 (by omega)).2.trans x7f
              have d8 : (W1.drew.setCell ⟨b7, 0, none⟩ (.int .i64 P[k].next)).cell? ⟨b8, 0, none⟩ = some (.int .i64 (lf : Int)) := (World.cell?_setCell_other _ _ _ _ (by intro h; injection h with h2 _ _; omega)).trans e8
              have dd8 : (W1.drew.setCell ⟨b7, 0, none⟩ (.int .i64 P[k].next)).frozen? ⟨b8, 0, none⟩ = false := (World.frozen?_setCell _ _ _ _).trans f8
              have hR : Hid (IntKind.i64.wrap ((lf : Int) - (lf : Int)) = ((lf - min lf 40 : Nat) : Int)) := by have := HI.out.pos (by omega); show _ = _; rw [IntKind.wrap_i64]; omega
              clear ne1 hW1
              refine wpIn_region_any (by kernel_rfl) (any_round (by kernel_rfl) _ _ _ _ ?_)
              show wpAnyIn Fence.wide 8 Tryd.prog .any _ _ 7 #[false, false, false, false, false, false, false] _ W1.drew
              refine wpAnyIn_take (i := 0) (v := .pointer (some ⟨pb, 2, none⟩)) rfl rfl (by kernel_rfl) (by kernel_rfl) (by kernel_rfl) (fun _ _ _ h => h) ⟨Or.inl ⟨by kernel_rfl, fun _ => by kernel_rfl⟩, fun _ => rfl⟩ ?_
              refine wpAnyIn_take (i := 3) (v := .int .i64 (lf : Int)) rfl rfl (by kernel_rfl) (by kernel_rfl) (by kernel_rfl) (fun _ _ _ h => h) ⟨Or.inl ⟨by kernel_rfl, fun _ => by kernel_rfl⟩, fun _ => rfl⟩ ?_
              refine wpAnyIn_ready (rs := [1, 2]) (by kernel_rfl) (by simp) (AllReadyIn.cons rfl (fun K hK => ?q1x10) (AllReadyIn.cons rfl (fun K hK => ?q2x10) (AllReadyIn.nil)))
              case q1x10 =>
                refine ri_load (x := 47) (p := ⟨pb, 2, none⟩) (i := P[k].next) (by kernel_rfl) (by kernel_rfl) (by kernel_rfl) e2 (hK _ _ ?_)
                refine wpAnyIn_ready (rs := [2, 5]) (by kernel_rfl) (by simp) (AllReadyIn.cons rfl (fun K hK => ?q2x11) (AllReadyIn.cons rfl (fun K hK => ?q5x11) (AllReadyIn.nil)))
                case q2x11 =>
                  refine ri_load (x := 8) (p := ⟨b8, 0, none⟩) (i := (lf : Int)) (by kernel_rfl) (by kernel_rfl) (by kernel_rfl) e8 (hK _ _ ?_)
                  refine wpAnyIn_take (i := 4) (v := .int .i64 ((lf - min lf 40 : Nat) : Int)) rfl rfl (by kernel_rfl) (by kernel_rfl) (by kernel_rfl) (fun _ _ _ h => h) ⟨Or.inl ⟨by kernel_rfl, yi_sub (x := 49) (y := 50) (i := (lf : Int)) (j := (lf : Int)) (by kernel_rfl) (by kernel_rfl) (by kernel_rfl) hR.out⟩, fun _ => rfl⟩ ?_
                  refine wpAnyIn_ready (rs := [5]) (by kernel_rfl) (by simp) (AllReadyIn.cons rfl (fun K hK => ?q5x12) (AllReadyIn.nil))
                  case q5x12 =>
                    refine ri_store (x := 7) (y := 48) (p := ⟨b7, 0, none⟩) (i := endP first pre) (j := P[k].next) (by kernel_rfl) (by kernel_rfl) (by kernel_rfl) (by kernel_rfl) e7 f7 (hK _ _ ?_)
                    refine wpAnyIn_ready (rs := [6]) (by kernel_rfl) (by simp) (AllReadyIn.cons rfl (fun K hK => ?q6x13) (AllReadyIn.nil))
                    case q6x13 =>
                      refine ri_store (x := 8) (y := 51) (p := ⟨b8, 0, none⟩) (i := (lf : Int)) (j := ((lf - min lf 40 : Nat) : Int)) (by kernel_rfl) (by kernel_rfl) (by kernel_rfl) (by kernel_rfl) d8 dd8 (hK _ _ ?_)
                      exact wpAnyIn_done (by kernel_rfl) HFin.out _
                case q5x11 =>
                  refine ri_store (x := 7) (y := 48) (p := ⟨b7, 0, none⟩) (i := endP first pre) (j := P[k].next) (by kernel_rfl) (by kernel_rfl) (by kernel_rfl) (by kernel_rfl) e7 f7 (hK _ _ ?_)
                  refine wpAnyIn_ready (rs := [2]) (by kernel_rfl) (by simp) (AllReadyIn.cons rfl (fun K hK => ?q2x14) (AllReadyIn.nil))
                  case q2x14 =>
                    refine ri_load (x := 8) (p := ⟨b8, 0, none⟩) (i := (lf : Int)) (by kernel_rfl) (by kernel_rfl) (by kernel_rfl) d8 (hK _ _ ?_)
                    refine wpAnyIn_take (i := 4) (v := .int .i64 ((lf - min lf 40 : Nat) : Int)) rfl rfl (by kernel_rfl) (by kernel_rfl) (by kernel_rfl) (fun _ _ _ h => h) ⟨Or.inl ⟨by kernel_rfl, yi_sub (x := 49) (y := 50) (i := (lf : Int)) (j := (lf : Int)) (by kernel_rfl) (by kernel_rfl) (by kernel_rfl) hR.out⟩, fun _ => rfl⟩ ?_
                    refine wpAnyIn_ready (rs := [6]) (by kernel_rfl) (by simp) (AllReadyIn.cons rfl (fun K hK => ?q6x15) (AllReadyIn.nil))
                    case q6x15 =>
                      refine ri_store (x := 8) (y := 51) (p := ⟨b8, 0, none⟩) (i := (lf : Int)) (j := ((lf - min lf 40 : Nat) : Int)) (by kernel_rfl) (by kernel_rfl) (by kernel_rfl) (by kernel_rfl) d8 dd8 (hK _ _ ?_)
                      exact wpAnyIn_done (by kernel_rfl) HFin.out _
              case q2x10 =>
                refine ri_load (x := 8) (p := ⟨b8, 0, none⟩) (i := (lf : Int)) (by kernel_rfl) (by kernel_rfl) (by kernel_rfl) e8 (hK _ _ ?_)
                refine wpAnyIn_take (i := 4) (v := .int .i64 ((lf - min lf 40 : Nat) : Int)) rfl rfl (by kernel_rfl) (by kernel_rfl) (by kernel_rfl) (fun _ _ _ h => h) ⟨Or.inl ⟨by kernel_rfl, yi_sub (x := 49) (y := 50) (i := (lf : Int)) (j := (lf : Int)) (by kernel_rfl) (by kernel_rfl) (by kernel_rfl) hR.out⟩, fun _ => rfl⟩ ?_
                refine wpAnyIn_ready (rs := [1]) (by kernel_rfl) (by simp) (AllReadyIn.cons rfl (fun K hK => ?q1x16) (AllReadyIn.nil))
                case q1x16 =>
                  refine ri_load (x := 47) (p := ⟨pb, 2, none⟩) (i := P[k].next) (by kernel_rfl) (by kernel_rfl) (by kernel_rfl) e2 (hK _ _ ?_)
                  refine wpAnyIn_ready (rs := [5]) (by kernel_rfl) (by simp) (AllReadyIn.cons rfl (fun K hK => ?q5x17) (AllReadyIn.nil))
                  case q5x17 =>
                    refine ri_store (x := 7) (y := 48) (p := ⟨b7, 0, none⟩) (i := endP first pre) (j := P[k].next) (by kernel_rfl) (by kernel_rfl) (by kernel_rfl) (by kernel_rfl) e7 f7 (hK _ _ ?_)
                    refine wpAnyIn_ready (rs := [6]) (by kernel_rfl) (by simp) (AllReadyIn.cons rfl (fun K hK => ?q6x18) (AllReadyIn.nil))
                    case q6x18 =>
                      refine ri_store (x := 8) (y := 51) (p := ⟨b8, 0, none⟩) (i := (lf : Int)) (j := ((lf - min lf 40 : Nat) : Int)) (by kernel_rfl) (by kernel_rfl) (by kernel_rfl) (by kernel_rfl) d8 dd8 (hK _ _ ?_)
                      exact wpAnyIn_done (by kernel_rfl) HFin.out _
            · have hnd : (((P[k].data.size : Nat) : Int) != (lf : Int)) = true := by simp; omega
              have hnf : ¬ (fitB P[k] lf = true ∧ T1.getD k false = false) := fun h => by rw [fitB_size (by rw [hmm]; exact hsd)] at h; cases h.1
              gi_wp2
              all_goals exact HI.out.stop (xs := pre ++ [(k, P[k])]) hkP HE.out hnf
    case done =>
      rintro d xs C W hd hS ⟨lf, T1, hI⟩ hK
      have HI := hide hI
      have HK := hide hK
      have ho := hI.ord
      have hzW := hI.size
      have hz0 := HB0.out.2
      have hzv := HV.out.size
      have x7 := hI.c7.cell 0 _ rfl
      have x8 := hI.c8.cell 0 _ rfl
      have x6 : W.cell? ⟨w.heap.size + 1 + 1, 0, none⟩ = some (.bool false) := hI.res.cell 0 _ rfl
      have x6f : W.frozen? ⟨w.heap.size + 1 + 1, 0, none⟩ = false := hI.res.frozen 0
      have hp := hI.pos
      have hzr := hI.zero
      have hout : ¬ (0 ≤ endP first xs ∧ (endP first xs).toNat < P.length) := by
        rcases hS with h | h | h
        · omega
        · omega
        · rcases Nat.eq_zero_or_pos lf with h0 | h0
          · have := hzr h0; omega
          · have := hp h0; omega
      have HEq : Hid (takeV P first m T = if endP first xs = -1 ∧ lf = 0 then some T1 else none) := by
        show _ = _
        rw [hI.eq, takeV_out0 P _ _ _ hout]
      have HL := hide hI.len
      clear hI hS hK HI0 HT0 hp hzr hout
      generalize endP first xs = ev at *
      by_cases h1 : ev = -1
      · subst h1
        by_cases h2 : lf = 0
        · subst h2
          gi_wp2
          obtain ⟨V2, hV2⟩ : ∃ V2, W.setCell ⟨w.heap.size + 1 + 1, 0, none⟩ (.bool true) = V2 := ⟨_, rfl⟩
          rw [hV2]
          have hdV : V2.heap[d]? = some (.deferred (some [])) := by
            rw [← hV2, Below.heap_setCell _ _ _ _ (by show d ≠ w.heap.size + 1 + 1; omega)]; exact HK.out
          have v0 : Blk V2 (w.heap.size + 2) #[.bool true] 4 := by rw [← hV2]; exact HI.out.res.set 0 _
          have q0 : (V2.putObj d (.deferred none)).cell? ⟨w.heap.size + 1 + 1, 0, none⟩ = some (.bool true) := (tk_put v0 (d := d) (o := .deferred none) (by omega)).cell 0 _ rfl
          have hAs : Aside tb w (V2.putObj d (.deferred none)) := by
            rw [← hV2]
            exact tk_aside (HI.out.aside.set (p := ⟨w.heap.size + 1 + 1, 0, none⟩) (.inr (by show _ ≤ w.heap.size + 1 + 1; omega)) _) (by omega)
          have hRw : (V2.putObj d (.deferred none)).rowIs tb tt 96 (fun j => .bool (T1.getD j false)) := by
            obtain ⟨cells, hc1, hc2⟩ := HI.out.row
            exact ⟨cells, by rw [World.putObj_heap_other (by omega), ← hV2, Below.heap_setCell _ _ _ _ (by show tb ≠ w.heap.size + 1 + 1; omega)]; exact hc1, hc2⟩
          refine ⟨by simp, .inl ⟨_, _, rfl, run_takeDeferred hdV, ?_⟩⟩
          refine ⟨.bool true, by simp [results, Tryd.results31, go_sem, q0], true, rfl, hAs, ?_, ?_⟩
          · intro hn; rw [HEq.out, if_pos (by simp)] at hn; cases hn
          · intro T' hT'; rw [HEq.out, if_pos (by simp)] at hT'; cases hT'; exact ⟨rfl, HL.out, hRw⟩
        · have h2b : ((lf : Int) == 0) = false := by simp; omega
          gi_wp2
          obtain ⟨V2, hV2⟩ : ∃ V2, W.setCell ⟨w.heap.size + 1 + 1, 0, none⟩ (.bool false) = V2 := ⟨_, rfl⟩
          rw [hV2]
          have hdV : V2.heap[d]? = some (.deferred (some [])) := by
            rw [← hV2, Below.heap_setCell _ _ _ _ (by show d ≠ w.heap.size + 1 + 1; omega)]; exact HK.out
          have v0 : Blk V2 (w.heap.size + 2) #[.bool false] 4 := by rw [← hV2]; exact HI.out.res.set 0 _
          have q0 : (V2.putObj d (.deferred none)).cell? ⟨w.heap.size + 1 + 1, 0, none⟩ = some (.bool false) := (tk_put v0 (d := d) (o := .deferred none) (by omega)).cell 0 _ rfl
          have hAs : Aside tb w (V2.putObj d (.deferred none)) := by
            rw [← hV2]
            exact tk_aside (HI.out.aside.set (p := ⟨w.heap.size + 1 + 1, 0, none⟩) (.inr (by show _ ≤ w.heap.size + 1 + 1; omega)) _) (by omega)
          have hRw : (V2.putObj d (.deferred none)).rowIs tb tt 96 (fun j => .bool (T1.getD j false)) := by
            obtain ⟨cells, hc1, hc2⟩ := HI.out.row
            exact ⟨cells, by rw [World.putObj_heap_other (by omega), ← hV2, Below.heap_setCell _ _ _ _ (by show tb ≠ w.heap.size + 1 + 1; omega)]; exact hc1, hc2⟩
          refine ⟨by simp, .inl ⟨_, _, rfl, run_takeDeferred hdV, ?_⟩⟩
          refine ⟨.bool false, by simp [results, Tryd.results31, go_sem, q0], false, rfl, hAs, ?_, ?_⟩
          · intro _; rfl
          · intro T' hT'; rw [HEq.out, if_neg (fun h => h2 h.2)] at hT'; cases hT'
      · have h1b : (ev == (-1 : Int)) = false := by simpa using h1
        gi_wp2
        obtain ⟨V2, hV2⟩ : ∃ V2, W.setCell ⟨w.heap.size + 1 + 1, 0, none⟩ (.bool false) = V2 := ⟨_, rfl⟩
        rw [hV2]
        have hdV : V2.heap[d]? = some (.deferred (some [])) := by
          rw [← hV2, Below.heap_setCell _ _ _ _ (by show d ≠ w.heap.size + 1 + 1; omega)]; exact HK.out
        have v0 : Blk V2 (w.heap.size + 2) #[.bool false] 4 := by rw [← hV2]; exact HI.out.res.set 0 _
        have q0 : (V2.putObj d (.deferred none)).cell? ⟨w.heap.size + 1 + 1, 0, none⟩ = some (.bool false) := (tk_put v0 (d := d) (o := .deferred none) (by omega)).cell 0 _ rfl
        have hAs : Aside tb w (V2.putObj d (.deferred none)) := by
          rw [← hV2]
          exact tk_aside (HI.out.aside.set (p := ⟨w.heap.size + 1 + 1, 0, none⟩) (.inr (by show _ ≤ w.heap.size + 1 + 1; omega)) _) (by omega)
        have hRw : (V2.putObj d (.deferred none)).rowIs tb tt 96 (fun j => .bool (T1.getD j false)) := by
          obtain ⟨cells, hc1, hc2⟩ := HI.out.row
          exact ⟨cells, by rw [World.putObj_heap_other (by omega), ← hV2, Below.heap_setCell _ _ _ _ (by show tb ≠ w.heap.size + 1 + 1; omega)]; exact hc1, hc2⟩
        refine ⟨by simp, .inl ⟨_, _, rfl, run_takeDeferred hdV, ?_⟩⟩
        refine ⟨.bool false, by simp [results, Tryd.results31, go_sem, q0], false, rfl, hAs, ?_, ?_⟩
        · intro _; rfl
        · intro T' hT'; rw [HEq.out, if_neg (fun h => h1 h.1)] at hT'; cases hT'
    case stop =>
      rintro d c pre C W hd hSp ⟨rfl, hX⟩ hK
      have HX := hide hX
      have HK := hide hK
      have hz0 := HB0.out.2
      have hzv := HV.out.size
      clear hX hK HI0 HT0
      gi_wp2
      have q0 : (W.putObj d (.deferred none)).cell? ⟨w.heap.size + 1 + 1, 0, none⟩ = some (.bool false) := (tk_put HX.out.res (d := d) (o := .deferred none) (by omega)).cell 0 _ rfl
      refine ⟨by simp, .inl ⟨_, _, rfl, run_takeDeferred HK.out, ?_⟩⟩
      refine ⟨.bool false, by simp [results, Tryd.results31, go_sem, q0], false, rfl, tk_aside HX.out.aside (by omega), fun _ => rfl, ?_⟩
      intro T' hT'
      rw [HX.out.none] at hT'
      cases hT'
  · generalize hV : (((((w.alloc (.cells #[.string nm, .int .i64 first, .int .i64 (m : Int)] 40)).alloc (.cells #[.slice (some ⟨tb, 0, none⟩) 96 96] 58)).alloc (.cells #[.bool false] 4)).alloc (.cells #[.int .i64 (m : Int)] 3)).alloc (.cells #[.int .i64 first] 3)).drew = V
    have HV : Hid (TkV w V #[.string nm, .int .i64 first, .int .i64 (m : Int)] #[.slice (some ⟨tb, 0, none⟩) 96 96] first m (w.heap.size + 1 + 1 + 1 + 1) (w.heap.size + 1 + 1 + 1)) := by
      subst hV
      exact (tkV_two w _ _ first m).drew
    generalize w.heap.size + 1 + 1 + 1 + 1 = b7 at HV ⊢
    generalize w.heap.size + 1 + 1 + 1 = b8 at HV ⊢
    have y0 := HV.out.n0.cell 1 _ rfl
    gi_wp2_with (refine ⟨trivial, ?_⟩; gi_at_call 42; refine (callsIn_wide.2 (HCh.out _)).mono ?_; rintro e w3 ⟨rfl, rfl⟩)
    clear y0
    obtain ⟨W0, hW0⟩ : ∃ W0, (V.alloc (Obj.cells #[Value.pointer (some ⟨sb, 0, none⟩)] 44)).alloc (Obj.cells #[Value.int .i64 first] 3) = W0 := ⟨_, rfl⟩
    have HB0 : Hid (Below V.heap.size V W0 ∧ W0.heap.size = V.heap.size + 2) := by subst hW0; exact ⟨((Below.refl _ _).alloc (Nat.le_refl _) _).alloc (by simp) _, by simp⟩
    have HT0 : Hid (Blk W0 V.heap.size #[.pointer (some ⟨sb, 0, none⟩)] 44 ∧ Blk W0 (V.heap.size + 1) #[.int .i64 first] 3) := by subst hW0; exact ⟨(Blk.new _ _ _).alloc _, Blk.atn (by simp)⟩
    have htbl : tb < w.heap.size := HRow.out.lt
    have HI0 : Hid (TkI w P first m T tb tt #[.string nm, .int .i64 first, .int .i64 (m : Int)] #[.slice (some ⟨tb, 0, none⟩) 96 96] b7 b8 [] (TC tb (w.heap.size + 2) b7 b8) W0 m T) := by
      have ho := HV.out.ord
      have hz := HV.out.size
      have hbw := HV.out.below.trans (HB0.out.1.mono (by omega))
      refine ⟨rfl, by rw [endP_nil], hT, ?_, HV.out.c7.below HB0.out.1 HV.out.c7.lt, HV.out.c8.below HB0.out.1 HV.out.c8.lt, HV.out.res.below HB0.out.1 HV.out.res.lt, HV.out.n0.below HB0.out.1 HV.out.n0.lt, HV.out.n1.below HB0.out.1 HV.out.n1.lt, ?_, by intro _; simp, by intro _; simp, ⟨htbl, ho⟩, by have := HB0.out.2; omega⟩
      · obtain ⟨cells, hc1, hc2⟩ := HRow.out
        exact ⟨cells, (hbw.block _ htbl).trans hc1, hc2⟩
      · exact ⟨hbw.os, hbw.tape, hbw.output, hbw.size, fun k h1 _ => hbw.block k h1⟩
    have HBW : Hid (Below w.heap.size w W0) := HV.out.below.trans (HB0.out.1.mono (by have := HV.out.size; omega))
    rw [hW0]
    clear hW0
    refine rf_law (gf := 50) (lb := #[.pointer (some ⟨V.heap.size + 1, 0, none⟩), .pointer (some ⟨V.heap.size, 0, none⟩)]) rfl (enters_of Tryd.func50 (by kernel_rfl) rfl)
      (chain_seq P first (V.heap.size + 1) V.heap.size sb lb cap W0 hP (by have := HB0.out.2; omega) (by have := HB0.out.2; omega) (by have := HBW.out.size; omega) (by have := HBW.out.size; omega) (HT0.out.2.cell 0 _ rfl) (HT0.out.1.cell 0 _ rfl) ((HBW.out.cell (p := ⟨sb, 0, none⟩) hsb).trans hc)
        (fun i hi => by
          obtain ⟨q0, q1, q2⟩ := HCell.out i hi
          exact ⟨(HBW.out.cell (p := ⟨lb, i * 3, none⟩) hlb).trans q0, (HBW.out.cell (p := ⟨lb, i * 3 + 1, none⟩) hlb).trans q1, (HBW.out.cell (p := ⟨lb, i * 3 + 2, none⟩) hlb).trans q2⟩))
      (Below.refl _ _) (fun _ => rfl) (fun _ _ _ _ _ h _ => h) (fun _ _ _ _ _ h _ => h)
      (TC tb (w.heap.size + 2) b7 b8) ?hD ?hC0
      (fun pre C W => ∃ lf T1, TkI w P first m T tb tt #[.string nm, .int .i64 first, .int .i64 (m : Int)] #[.slice (some ⟨tb, 0, none⟩) 96 96] b7 b8 pre C W lf T1) (fun c _ C W => c = .ret ∧ TkX w P first m T tb b7 b8 C W)
      (fun pre C A B ⟨lf, T1, h⟩ hk => ⟨lf, T1, h.kept (by have := HB0.out.2; have := HV.out.size; omega) hk⟩) (fun c pre C A B h hk => ⟨h.1, h.2.kept (by have := HB0.out.2; have := HV.out.size; omega) hk⟩)
      ⟨_, _, HI0.out⟩
      (fun x a' A => ∃ pb, w.heap.size + 5 ≤ pb ∧ Blk A pb #[.bool x.2.used, .string x.2.data, .int .i64 x.2.next] 64 ∧ a' = { tmps := #[.pointer (some ⟨sb, 0, none⟩), .agg #[.string nm, .int .i64 first, .int .i64 (m : Int)], .slice (some ⟨tb, 0, none⟩) 96 96, undef, .pointer (some ⟨w.heap.size, 0, none⟩), .pointer (some ⟨w.heap.size + 1, 0, none⟩), .pointer (some ⟨w.heap.size + 1 + 1, 0, none⟩), .pointer (some ⟨b7, 0, none⟩), .pointer (some ⟨b8, 0, none⟩), .int .i64 (x.1 : Int), .pointer (some ⟨pb, 0, none⟩), undef, .pointer (some ⟨w.heap.size, 1, none⟩), .int .i64 first, .pointer (some ⟨w.heap.size, 2, none⟩), .int .i64 (m : Int), .pointer (some ⟨sb, 0, none⟩), .pointer (some ⟨w.heap.size, 1, none⟩), .int .i64 first, .func (.func 50) #[] #[.pointer (some ⟨V.heap.size + 1, 0, none⟩), .pointer (some ⟨V.heap.size, 0, none⟩)], .int .i64 (x.1 : Int), aPg x.2, undef, undef, undef, undef, undef, undef, undef, undef, undef, undef, undef, undef, undef, undef, undef, undef, undef, undef, undef, undef, undef, undef, undef, undef, undef, undef, undef, undef, undef, undef, undef, undef, undef, undef, undef, undef], defers := [] })
      (fun x a' A l r o hl ⟨pb, h1, h2, h3⟩ => ⟨pb, h1, (World.putObj_heap_other (fun e => by subst e; unfold Blk at h2; rw [hl] at h2; cases h2)).trans h2, h3⟩) ?assign ?body ?done ?stop
    case hD =>
      have h1 := HV.out.size
      have h2 := HB0.out.2
      have h3 := HV.out.ord
      rintro k (rfl | rfl | rfl | rfl) <;> (refine ⟨by omega, ?_⟩; rintro (h | h | h | h) <;> omega)
    case hC0 =>
      have h1 := HV.out.size
      have h2 := HB0.out.2
      have h3 := HV.out.ord
      rintro k (h | h | h | h) <;> omega
    case assign =>
      rintro l pre x C W K ⟨lf, T1, hI⟩ _ hK
      have hz := hI.size
      clear hI
      dsimp only [encP]
      gi_wp2
      exact hK _ _ ((Below.refl _ _).alloc (Nat.le_refl _) _) ⟨W.heap.size, hz, Blk.new W _ _, rfl⟩
    case body =>
      rintro l2 pre x C a' W ⟨lf, T1, hI⟩ hx hC ⟨pb, hpb, hpg, rfl⟩ hl hr
      obtain ⟨k, p⟩ := x
      obtain ⟨he0, hkP0, hpe0⟩ := hx
      have HE : Hid ((k : Int) = endP first pre) := he0
      have hkP : k < P.length := hkP0
      have hpe : P[k] = p := hpe0
      subst hpe
      have HI := hide hI
      clear hI hC hl hr HI0 HT0 he0 hkP0 hpe0
      have ho := HI.out.ord
      have hzW := HI.out.size
      have hk96 : k < 96 := by omega
      have hkI : (k : Int) < 96 := by omega
      have g0 := hpg.cell 0 _ rfl
      have g1 := hpg.cell 1 _ rfl
      have g2 := hpg.cell 2 _ rfl
      have x8 := HI.out.c8.cell 0 _ rfl
      have x8f := HI.out.c8.frozen 0
      have x7 := HI.out.c7.cell 0 _ rfl
      have x7f := HI.out.c7.frozen 0
      have x5 : W.cell? ⟨w.heap.size + 1, 0, none⟩ = some (.slice (some ⟨tb, 0, none⟩) 96 96) := HI.out.n1.cell 0 _ rfl
      have x6 : W.cell? ⟨w.heap.size + 1 + 1, 0, none⟩ = some (.bool false) := HI.out.res.cell 0 _ rfl
      have x6f : W.frozen? ⟨w.heap.size + 1 + 1, 0, none⟩ = false := HI.out.res.frozen 0
      have r0 := HI.out.row.cell hk96
      have r1 := HI.out.row.frozen k
      have HPg := hide hpg
      have hds := hsz k hkP
      unfold maxLen at hds
      dsimp only at g0 g1 g2
      clear hpg
      rcases (by omega : lf = 0 ∨ (40 < lf ∧ min lf 40 = 40) ∨ (0 < lf ∧ lf ≤ 40 ∧ min lf 40 = lf)) with rfl | ⟨h40, hmm⟩ | ⟨h0, h40, hmm⟩
      · have hnf : ¬ (fitB P[k] 0 = true ∧ T1.getD k false = false) := fun h => by rw [fitB_zero rfl] at h; cases h.1
        gi_wp2
        all_goals exact HI.out.stop (xs := pre ++ [(k, P[k])]) hkP HE.out hnf
      · have h40I : (40 : Int) < (lf : Int) := by omega
        have hmin : min (lf : Int) 40 = 40 := by omega
        cases htk : T1.getD k false with
        | true =>
          rw [htk] at r0
          have hnf : ¬ (fitB P[k] lf = true ∧ T1.getD k false = false) := fun h => by rw [htk] at h; cases h.2
          gi_wp2
          all_goals exact HI.out.stop (xs := pre ++ [(k, P[k])]) hkP HE.out hnf
        | false =>
          rw [htk] at r0
          have HTk := hide htk
          cases hu : P[k].used with
          | false =>
            have hnf : ¬ (fitB P[k] lf = true ∧ T1.getD k false = false) := fun h => by rw [fitB_used hu] at h; cases h.1
            rw [hu] at g0
            gi_wp2
            all_goals exact HI.out.stop (xs := pre ++ [(k, P[k])]) hkP HE.out hnf
          | true =>
            have HU := hide hu
            rw [hu] at g0
            clear hu htk
            by_cases hsd : P[k].data.size = 40
            · have hnd : (((P[k].data.size : Nat) : Int) != 40) = false := by simp; omega
              have HF : Hid (fitB P[k] lf = true) := fitB_yes HU.out (by rw [hmm]; exact hsd) (by omega)
              gi_wp2
              have HFin := hide (HI.out.fin hkP hP HE.out HF.out HTk.out)
              generalize hW1 : W.setCell ⟨tb, k, none⟩ (.bool true) = W1 at HFin ⊢
              have ne1 : ∀ (b j : Nat), b ≠ tb → W1.drew.cell? ⟨b, j, none⟩ = W.cell? ⟨b, j, none⟩ ∧ W1.drew.frozen? ⟨b, j, none⟩ = W.frozen? ⟨b, j, none⟩ := fun b j hb => by
                rw [← hW1]; exact ⟨World.cell?_setCell_other _ _ _ _ (by intro h; injection h with h2 _ _; omega), World.frozen?_setCell _ _ _ _⟩
              have e2 : W1.drew.cell? ⟨pb, 2, none⟩ = some (.int .i64 P[k].next) := (ne1 pb 2 (by omega)).1.trans g2
              have e8 : W1.drew.cell? ⟨b8, 0, none⟩ = some (.int .i64 (lf : Int)) := (ne1 b8 0 (by omega)).1.trans x8
              have f8 : W1.drew.frozen? ⟨b8, 0, none⟩ = false := (ne1 b8 0 (by omega)).2.trans x8f
              have e7 : W1.drew.cell? ⟨b7, 0, none⟩ = some (.int .i64 (endP first pre)) := (ne1 b7 0 (by omega)).1.trans x7
              have f7 : W1.drew.frozen? ⟨b7, 0, none⟩ = false := (ne1 b7 0 (by omega)).2.trans x7f
              have d8 : (W1.drew.setCell ⟨b7, 0, none⟩ (.int .i64 P[k].next)).cell? ⟨b8, 0, none⟩ = some (.int .i64 (lf : Int)) := (World.cell?_setCell_other _ _ _ _ (by intro h; injection h with h2 _ _; omega)).trans e8
              have dd8 : (W1.drew.setCell ⟨b7, 0, none⟩ (.int .i64 P[k].next)).frozen? ⟨b8, 0, none⟩ = false := (World.frozen?_setCell _ _ _ _).trans f8
              have hR : Hid (IntKind.i64.wrap ((lf : Int) - 40) = ((lf - min lf 40 : Nat) : Int)) := by have := HI.out.pos (by omega); show _ = _; rw [IntKind.wrap_i64]; omega
              clear ne1 hW1
              refine wpIn_region_any (by kernel_rfl) (any_round (by kernel_rfl) _ _ _ _ ?_)
              show wpAnyIn Fence.wide 8 Tryd.prog .any _ _ 7 #[false, false, false, false, false, false, false] _ W1.drew
              refine wpAnyIn_take (i := 0) (v := .pointer (some ⟨pb, 2, none⟩)) rfl rfl (by kernel_rfl) (by kernel_rfl) (by kernel_rfl) (fun _ _ _ h => h) ⟨Or.inl ⟨by kernel_rfl, fun _ => by kernel_rfl⟩, fun _ => rfl⟩ ?_
              refine wpAnyIn_take (i := 3) (v := .int .i64 40) rfl rfl (by kernel_rfl) (by kernel_rfl) (by kernel_rfl) (fun _ _ _ h => h) ⟨Or.inl ⟨by kernel_rfl, fun _ => by kernel_rfl⟩, fun _ => rfl⟩ ?_
              refine wpAnyIn_ready (rs := [1, 2]) (by kernel_rfl) (by simp) (AllReadyIn.cons rfl (fun K hK => ?q1x1) (AllReadyIn.cons rfl (fun K hK => ?q2x1) (AllReadyIn.nil)))
              case q1x1 =>
                refine ri_load (x := 47) (p := ⟨pb, 2, none⟩) (i := P[k].next) (by kernel_rfl) (by kernel_rfl) (by kernel_rfl) e2 (hK _ _ ?_)
                refine wpAnyIn_ready (rs := [2, 5]) (by kernel_rfl) (by simp) (AllReadyIn.cons rfl (fun K hK => ?q2x2) (AllReadyIn.cons rfl (fun K hK => ?q5x2) (AllReadyIn.nil)))
                case q2x2 =>
                  refine ri_load (x := 8) (p := ⟨b8, 0, none⟩) (i := (lf : Int)) (by kernel_rfl) (by kernel_rfl) (by kernel_rfl) e8 (hK _ _ ?_)
                  refine wpAnyIn_take (i := 4) (v := .int .i64 ((lf - min lf 40 : Nat) : Int)) rfl rfl (by kernel_rfl) (by kernel_rfl) (by kernel_rfl) (fun _ _ _ h => h) ⟨Or.inl ⟨by kernel_rfl, yi_sub (x := 49) (y := 50) (i := (lf : Int)) (j := 40) (by kernel_rfl) (by kernel_rfl) (by kernel_rfl) hR.out⟩, fun _ => rfl⟩ ?_
                  refine wpAnyIn_ready (rs := [5]) (by kernel_rfl) (by simp) (AllReadyIn.cons rfl (fun K hK => ?q5x3) (AllReadyIn.nil))
                  case q5x3 =>
                    refine ri_store (x := 7) (y := 48) (p := ⟨b7, 0, none⟩) (i := endP first pre) (j := P[k].next) (by kernel_rfl) (by kernel_rfl) (by kernel_rfl) (by kernel_rfl) e7 f7 (hK _ _ ?_)
                    refine wpAnyIn_ready (rs := [6]) (by kernel_rfl) (by simp) (AllReadyIn.cons rfl (fun K hK => ?q6x4) (AllReadyIn.nil))
                    case q6x4 =>
                      refine ri_store (x := 8) (y := 51) (p := ⟨b8, 0, none⟩) (i := (lf : Int)) (j := ((lf - min lf 40 : Nat) : Int)) (by kernel_rfl) (by kernel_rfl) (by kernel_rfl) (by kernel_rfl) d8 dd8 (hK _ _ ?_)
                      exact wpAnyIn_done (by kernel_rfl) HFin.out _
                case q5x2 =>
                  refine ri_store (x := 7) (y := 48) (p := ⟨b7, 0, none⟩) (i := endP first pre) (j := P[k].next) (by kernel_rfl) (by kernel_rfl) (by kernel_rfl) (by kernel_rfl) e7 f7 (hK _ _ ?_)
                  refine wpAnyIn_ready (rs := [2]) (by kernel_rfl) (by simp) (AllReadyIn.cons rfl (fun K hK => ?q2x5) (AllReadyIn.nil))
                  case q2x5 =>
                    refine ri_load (x := 8) (p := ⟨b8, 0, none⟩) (i := (lf : Int)) (by kernel_rfl) (by kernel_rfl) (by kernel_rfl) d8 (hK _ _ ?_)
                    refine wpAnyIn_take (i := 4) (v := .int .i64 ((lf - min lf 40 : Nat) : Int)) rfl rfl (by kernel_rfl) (by kernel_rfl) (by kernel_rfl) (fun _ _ _ h => h) ⟨Or.inl ⟨by kernel_rfl, yi_sub (x := 49) (y := 50) (i := (lf : Int)) (j := 40) (by kernel_rfl) (by kernel_rfl) (by kernel_rfl) hR.out⟩, fun _ => rfl⟩ ?_
                    refine wpAnyIn_ready (rs := [6]) (by kernel_rfl) (by simp) (AllReadyIn.cons rfl (fun K hK => ?q6x6) (AllReadyIn.nil))
                    case q6x6 =>
                      refine ri_store (x := 8) (y := 51) (p := ⟨b8, 0, none⟩) (i := (lf : Int)) (j := ((lf - min lf 40 : Nat) : Int)) (by kernel_rfl) (by kernel_rfl) (by kernel_rfl) (by kernel_rfl) d8 dd8 (hK _ _ ?_)
                      exact wpAnyIn_done (by kernel_rfl) HFin.out _
              case q2x1 =>
                refine ri_load (x := 8) (p := ⟨b8, 0, none⟩) (i := (lf : Int)) (by kernel_rfl) (by kernel_rfl) (by kernel_rfl) e8 (hK _ _ ?_)
                refine wpAnyIn_take (i := 4) (v := .int .i64 ((lf - min lf 40 : Nat) : Int)) rfl rfl (by kernel_rfl) (by kernel_rfl) (by kernel_rfl) (fun _ _ _ h => h) ⟨Or.inl ⟨by kernel_rfl, yi_sub (x := 49) (y := 50) (i := (lf : Int)) (j := 40) (by kernel_rfl) (by kernel_rfl) (by kernel_rfl) hR.out⟩, fun _ => rfl⟩ ?_
                refine wpAnyIn_ready (rs := [1]) (by kernel_rfl) (by simp) (AllReadyIn.cons rfl (fun K hK => ?q1x7) (AllReadyIn.nil))
                case q1x7 =>
                  refine ri_load (x := 47) (p := ⟨pb, 2, none⟩) (i := P[k].next) (by kernel_rfl) (by kernel_rfl) (by kernel_rfl) e2 (hK _ _ ?_)
                  refine wpAnyIn_ready (rs := [5]) (by kernel_rfl) (by simp) (AllReadyIn.cons rfl (fun K hK => ?q5x8) (AllReadyIn.nil))
                  case q5x8 =>
                    refine ri_store (x := 7) (y := 48) (p := ⟨b7, 0, none⟩) (i := endP first pre) (j := P[k].next) (by kernel_rfl) (by kernel_rfl) (by kernel_rfl) (by kernel_rfl) e7 f7 (hK _ _ ?_)
                    refine wpAnyIn_ready (rs := [6]) (by kernel_rfl) (by simp) (AllReadyIn.cons rfl (fun K hK => ?q6x9) (AllReadyIn.nil))
                    case q6x9 =>
                      refine ri_store (x := 8) (y := 51) (p := ⟨b8, 0, none⟩) (i := (lf : Int)) (j := ((lf - min lf 40 : Nat) : Int)) (by kernel_rfl) (by kernel_rfl) (by kernel_rfl) (by kernel_rfl) d8 dd8 (hK _ _ ?_)
                      exact wpAnyIn_done (by kernel_rfl) HFin.out _
            · have hnd : (((P[k].data.size : Nat) : Int) != 40) = true := by simp; omega
              have hnf : ¬ (fitB P[k] lf = true ∧ T1.getD k false = false) := fun h => by rw [fitB_size (by rw [hmm]; exact hsd)] at h; cases h.1
              gi_wp2
              all_goals exact HI.out.stop (xs := pre ++ [(k, P[k])]) hkP HE.out hnf
      · have h40I : ¬ (40 : Int) < (lf : Int) := by omega
        have hmin : min (lf : Int) 40 = (lf : Int) := by omega
        have hz0 : ((lf : Int) == 0) = false := by simp; omega
        cases htk : T1.getD k false with
        | true =>
          rw [htk] at r0
          have hnf : ¬ (fitB P[k] lf = true ∧ T1.getD k false = false) := fun h => by rw [htk] at h; cases h.2
          gi_wp2
          all_goals exact HI.out.stop (xs := pre ++ [(k, P[k])]) hkP HE.out hnf
        | false =>
          rw [htk] at r0
          have HTk := hide htk
          cases hu : P[k].used with
          | false =>
            have hnf : ¬ (fitB P[k] lf = true ∧ T1.getD k false = false) := fun h => by rw [fitB_used hu] at h; cases h.1
            rw [hu] at g0
            gi_wp2
            all_goals exact HI.out.stop (xs := pre ++ [(k, P[k])]) hkP HE.out hnf
          | true =>
            have HU := hide hu
            rw [hu] at g0
            clear hu htk
            by_cases hsd : P[k].data.size = lf
            · have hnd : (((P[k].data.size : Nat) : Int) != (lf : Int)) = false := by simp; omega
              have HF : Hid (fitB P[k] lf = true) := fitB_yes HU.out (by rw [hmm]; exact hsd) (by omega)
              gi_wp2
              have HFin := hide (HI.out.fin hkP hP HE.out HF.out HTk.out)
              generalize hW1 : W.setCell ⟨tb, k, none⟩ (.bool true) = W1 at HFin ⊢
              have ne1 : ∀ (b j : Nat), b ≠ tb → W1.drew.cell? ⟨b, j, none⟩ = W.cell? ⟨b, j, none⟩ ∧ W1.drew.frozen? ⟨b, j, none⟩ = W.frozen? ⟨b, j, none⟩ := fun b j hb => by
                rw [← hW1]; exact ⟨World.cell?_setCell_other _ _ _ _ (by intro h; injection h with h2 _ _; omega), World.frozen?_setCell _ _ _ _⟩
              have e2 : W1.drew.cell? ⟨pb, 2, none⟩ = some (.int .i64 P[k].next) := (ne1 pb 2 (by omega)).1.trans g2
              have e8 : W1.drew.cell? ⟨b8, 0, none⟩ = some (.int .i64 (lf : Int)) := (ne1 b8 0 (by omega)).1.trans x8
              have f8 : W1.drew.frozen? ⟨b8, 0, none⟩ = false := (ne1 b8 0 (by omega)).2.trans x8f
              have e7 : W1.drew.cell? ⟨b7, 0, none⟩ = some (.int .i64 (endP first pre)) := (ne1 b7 0 (by omega)).1.trans x7
              have f7 : W1.drew.frozen? ⟨b7, 0, none⟩ = false := (ne1 b7 0 (by omega)).2.trans x7f
              have d8 : (W1.drew.setCell ⟨b7, 0, none⟩ (.int .i64 P[k].next)).cell? ⟨b8, 0, none⟩ = some (.int .i64 (lf : Int)) := (World.cell?_setCell_other _ _ _ _ (by intro h; injection h with h2 _ _; omega)).trans e8
              have dd8 : (W1.drew.setCell ⟨b7, 0, none⟩ (.int .i64 P[k].next)).frozen? ⟨b8, 0, none⟩ = false := (World.frozen?_setCell _ _ _ _).trans f8
              have hR : Hid (IntKind.i64.wrap ((lf : Int) - (lf : Int)) = ((lf - min lf 40 : Nat) : Int)) := by have := HI.out.pos (by omega); show _ = _; rw [IntKind.wrap_i64]; omega
              clear ne1 hW1
              refine wpIn_region_any (by kernel_rfl) (any_round (by kernel_rfl) _ _ _ _ ?_)
              show wpAnyIn Fence.wide 8 Tryd.prog .any _ _ 7 #[false, false, false, false, false, false, false] _ W1.drew
              refine wpAnyIn_take (i := 0) (v := .pointer (some ⟨pb, 2, none⟩)) rfl rfl (by kernel_rfl) (by kernel_rfl) (by kernel_rfl) (fun _ _ _ h => h) ⟨Or.inl ⟨by kernel_rfl, fun _ => by kernel_rfl⟩, fun _ => rfl⟩ ?_
              refine wpAnyIn_take (i := 3) (v := .int .i64 (lf : Int)) rfl rfl (by kernel_rfl) (by kernel_rfl) (by kernel_rfl) (fun _ _ _ h => h) ⟨Or.inl ⟨by kernel_rfl, fun _ => by kernel_rfl⟩, fun _ => rfl⟩ ?_
              refine wpAnyIn_ready (rs := [1, 2]) (by kernel_rfl) (by simp) (AllReadyIn.cons rfl (fun K hK => ?q1x10) (AllReadyIn.cons rfl (fun K hK => ?q2x10) (AllReadyIn.nil)))
              case q1x10 =>
                refine ri_load (x := 47) (p := ⟨pb, 2, none⟩) (i := P[k].next) (by kernel_rfl) (by kernel_rfl) (by kernel_rfl) e2 (hK _ _ ?_)
                refine wpAnyIn_ready (rs := [2, 5]) (by kernel_rfl) (by simp) (AllReadyIn.cons rfl (fun K hK => ?q2x11) (AllReadyIn.cons rfl (fun K hK => ?q5x11) (AllReadyIn.nil)))
                case q2x11 =>
                  refine ri_load (x := 8) (p := ⟨b8, 0, none⟩) (i := (lf : Int)) (by kernel_rfl) (by kernel_rfl) (by kernel_rfl) e8 (hK _ _ ?_)
                  refine wpAnyIn_take (i := 4) (v := .int .i64 ((lf - min lf 40 : Nat) : Int)) rfl rfl (by kernel_rfl) (by kernel_rfl) (by kernel_rfl) (fun _ _ _ h => h) ⟨Or.inl ⟨by kernel_rfl, yi_sub (x := 49) (y := 50) (i := (lf : Int)) (j := (lf : Int)) (by kernel_rfl) (by kernel_rfl) (by kernel_rfl) hR.out⟩, fun _ => rfl⟩ ?_
                  refine wpAnyIn_ready (rs := [5]) (by kernel_rfl) (by simp) (AllReadyIn.cons rfl (fun K hK => ?q5x12) (AllReadyIn.nil))
                  case q5x12 =>
                    refine ri_store (x := 7) (y := 48) (p := ⟨b7, 0, none⟩) (i := endP first pre) (j := P[k].next) (by kernel_rfl) (by kernel_rfl) (by kernel_rfl) (by kernel_rfl) e7 f7 (hK _ _ ?_)
                    refine wpAnyIn_ready (rs := [6]) (by kernel_rfl) (by simp) (AllReadyIn.cons rfl (fun K hK => ?q6x13) (AllReadyIn.nil))
                    case q6x13 =>
                      refine ri_store (x := 8) (y := 51) (p := ⟨b8, 0, none⟩) (i := (lf : Int)) (j := ((lf - min lf 40 : Nat) : Int)) (by kernel_rfl) (by kernel_rfl) (by kernel_rfl) (by kernel_rfl) d8 dd8 (hK _ _ ?_)
                      exact wpAnyIn_done (by kernel_rfl) HFin.out _
                case q5x11 =>
                  refine ri_store (x := 7) (y := 48) (p := ⟨b7, 0, none⟩) (i := endP first pre) (j := P[k].next) (by kernel_rfl) (by kernel_rfl) (by kernel_rfl) (by kernel_rfl) e7 f7 (hK _ _ ?_)
                  refine wpAnyIn_ready (rs := [2]) (by kernel_rfl) (by simp) (AllReadyIn.cons rfl (fun K hK => ?q2x14) (AllReadyIn.nil))
                  case q2x14 =>
                    refine ri_load (x := 8) (p := ⟨b8, 0, none⟩) (i := (lf : Int)) (by kernel_rfl) (by kernel_rfl) (by kernel_rfl) d8 (hK _ _ ?_)
                    refine wpAnyIn_take (i := 4) (v := .int .i64 ((lf - min lf 40 : Nat) : Int)) rfl rfl (by kernel_rfl) (by kernel_rfl) (by kernel_rfl) (fun _ _ _ h => h) ⟨Or.inl ⟨by kernel_rfl, yi_sub (x := 49) (y := 50) (i := (lf : Int)) (j := (lf : Int)) (by kernel_rfl) (by kernel_rfl) (by kernel_rfl) hR.out⟩, fun _ => rfl⟩ ?_
                    refine wpAnyIn_ready (rs := [6]) (by kernel_rfl) (by simp) (AllReadyIn.cons rfl (fun K hK => ?q6x15) (AllReadyIn.nil))
                    case q6x15 =>
                      refine ri_store (x := 8) (y := 51) (p := ⟨b8, 0, none⟩) (i := (lf : Int)) (j := ((lf - min lf 40 : Nat) : Int)) (by kernel_rfl) (by kernel_rfl) (by kernel_rfl) (by kernel_rfl) d8 dd8 (hK _ _ ?_)
                      exact wpAnyIn_done (by kernel_rfl) HFin.out _
              case q2x10 =>
                refine ri_load (x := 8) (p := ⟨b8, 0, none⟩) (i := (lf : Int)) (by kernel_rfl) (by kernel_rfl) (by kernel_rfl) e8 (hK _ _ ?_)
                refine wpAnyIn_take (i := 4) (v := .int .i64 ((lf - min lf 40 : Nat) : Int)) rfl rfl (by kernel_rfl) (by kernel_rfl) (by kernel_rfl) (fun _ _ _ h => h) ⟨Or.inl ⟨by kernel_rfl, yi_sub (x := 49) (y := 50) (i := (lf : Int)) (j := (lf : Int)) (by kernel_rfl) (by kernel_rfl) (by kernel_rfl) hR.out⟩, fun _ => rfl⟩ ?_
                refine wpAnyIn_ready (rs := [1]) (by kernel_rfl) (by simp) (AllReadyIn.cons rfl (fun K hK => ?q1x16) (AllReadyIn.nil))
                case q1x16 =>
                  refine ri_load (x := 47) (p := ⟨pb, 2, none⟩) (i := P[k].next) (by kernel_rfl) (by kernel_rfl) (by kernel_rfl) e2 (hK _ _ ?_)
                  refine wpAnyIn_ready (rs := [5]) (by kernel_rfl) (by simp) (AllReadyIn.cons rfl (fun K hK => ?q5x17) (AllReadyIn.nil))
                  case q5x17 =>
                    refine ri_store (x := 7) (y := 48) (p := ⟨b7, 0, none⟩) (i := endP first pre) (j := P[k].next) (by kernel_rfl) (by kernel_rfl) (by kernel_rfl) (by kernel_rfl) e7 f7 (hK _ _ ?_)
                    refine wpAnyIn_ready (rs := [6]) (by kernel_rfl) (by simp) (AllReadyIn.cons rfl (fun K hK => ?q6x18) (AllReadyIn.nil))
                    case q6x18 =>
                      refine ri_store (x := 8) (y := 51) (p := ⟨b8, 0, none⟩) (i := (lf : Int)) (j := ((lf - min lf 40 : Nat) : Int)) (by kernel_rfl) (by kernel_rfl) (by kernel_rfl) (by kernel_rfl) d8 dd8 (hK _ _ ?_)
                      exact wpAnyIn_done (by kernel_rfl) HFin.out _
            · have hnd : (((P[k].data.size : Nat) : Int) != (lf : Int)) = true := by simp; omega
              have hnf : ¬ (fitB P[k] lf = true ∧ T1.getD k false = false) := fun h => by rw [fitB_size (by rw [hmm]; exact hsd)] at h; cases h.1
              gi_wp2
              all_goals exact HI.out.stop (xs := pre ++ [(k, P[k])]) hkP HE.out hnf
    case done =>
      rintro d xs C W hd hS ⟨lf, T1, hI⟩ hK
      have HI := hide hI
      have HK := hide hK
      have ho := hI.ord
      have hzW := hI.size
      have hz0 := HB0.out.2
      have hzv := HV.out.size
      have x7 := hI.c7.cell 0 _ rfl
      have x8 := hI.c8.cell 0 _ rfl
      have x6 : W.cell? ⟨w.heap.size + 1 + 1, 0, none⟩ = some (.bool false) := hI.res.cell 0 _ rfl
      have x6f : W.frozen? ⟨w.heap.size + 1 + 1, 0, none⟩ = false := hI.res.frozen 0
      have hp := hI.pos
      have hzr := hI.zero
      have hout : ¬ (0 ≤ endP first xs ∧ (endP first xs).toNat < P.length) := by
        rcases hS with h | h | h
        · omega
        · omega
        · rcases Nat.eq_zero_or_pos lf with h0 | h0
          · have := hzr h0; omega
          · have := hp h0; omega
      have HEq : Hid (takeV P first m T = if endP first xs = -1 ∧ lf = 0 then some T1 else none) := by
        show _ = _
        rw [hI.eq, takeV_out0 P _ _ _ hout]
      have HL := hide hI.len
      clear hI hS hK HI0 HT0 hp hzr hout
      generalize endP first xs = ev at *
      by_cases h1 : ev = -1
      · subst h1
        by_cases h2 : lf = 0
        · subst h2
          gi_wp2
          obtain ⟨V2, hV2⟩ : ∃ V2, W.setCell ⟨w.heap.size + 1 + 1, 0, none⟩ (.bool true) = V2 := ⟨_, rfl⟩
          rw [hV2]
          have hdV : V2.heap[d]? = some (.deferred (some [])) := by
            rw [← hV2, Below.heap_setCell _ _ _ _ (by show d ≠ w.heap.size + 1 + 1; omega)]; exact HK.out
          have v0 : Blk V2 (w.heap.size + 2) #[.bool true] 4 := by rw [← hV2]; exact HI.out.res.set 0 _
          have q0 : (V2.putObj d (.deferred none)).cell? ⟨w.heap.size + 1 + 1, 0, none⟩ = some (.bool true) := (tk_put v0 (d := d) (o := .deferred none) (by omega)).cell 0 _ rfl
          have hAs : Aside tb w (V2.putObj d (.deferred none)) := by
            rw [← hV2]
            exact tk_aside (HI.out.aside.set (p := ⟨w.heap.size + 1 + 1, 0, none⟩) (.inr (by show _ ≤ w.heap.size + 1 + 1; omega)) _) (by omega)
          have hRw : (V2.putObj d (.deferred none)).rowIs tb tt 96 (fun j => .bool (T1.getD j false)) := by
            obtain ⟨cells, hc1, hc2⟩ := HI.out.row
            exact ⟨cells, by rw [World.putObj_heap_other (by omega), ← hV2, Below.heap_setCell _ _ _ _ (by show tb ≠ w.heap.size + 1 + 1; omega)]; exact hc1, hc2⟩
          refine ⟨by simp, .inl ⟨_, _, rfl, run_takeDeferred hdV, ?_⟩⟩
          refine ⟨.bool true, by simp [results, Tryd.results31, go_sem, q0], true, rfl, hAs, ?_, ?_⟩
          · intro hn; rw [HEq.out, if_pos (by simp)] at hn; cases hn
          · intro T' hT'; rw [HEq.out, if_pos (by simp)] at hT'; cases hT'; exact ⟨rfl, HL.out, hRw⟩
        · have h2b : ((lf : Int) == 0) = false := by simp; omega
          gi_wp2
          obtain ⟨V2, hV2⟩ : ∃ V2, W.setCell ⟨w.heap.size + 1 + 1, 0, none⟩ (.bool false) = V2 := ⟨_, rfl⟩
          rw [hV2]
          have hdV : V2.heap[d]? = some (.deferred (some [])) := by
            rw [← hV2, Below.heap_setCell _ _ _ _ (by show d ≠ w.heap.size + 1 + 1; omega)]; exact HK.out
          have v0 : Blk V2 (w.heap.size + 2) #[.bool false] 4 := by rw [← hV2]; exact HI.out.res.set 0 _
          have q0 : (V2.putObj d (.deferred none)).cell? ⟨w.heap.size + 1 + 1, 0, none⟩ = some (.bool false) := (tk_put v0 (d := d) (o := .deferred none) (by omega)).cell 0 _ rfl
          have hAs : Aside tb w (V2.putObj d (.deferred none)) := by
            rw [← hV2]
            exact tk_aside (HI.out.aside.set (p := ⟨w.heap.size + 1 + 1, 0, none⟩) (.inr (by show _ ≤ w.heap.size + 1 + 1; omega)) _) (by omega)
          have hRw : (V2.putObj d (.deferred none)).rowIs tb tt 96 (fun j => .bool (T1.getD j false)) := by
            obtain ⟨cells, hc1, hc2⟩ := HI.out.row
            exact ⟨cells, by rw [World.putObj_heap_other (by omega), ← hV2, Below.heap_setCell _ _ _ _ (by show tb ≠ w.heap.size + 1 + 1; omega)]; exact hc1, hc2⟩
          refine ⟨by simp, .inl ⟨_, _, rfl, run_takeDeferred hdV, ?_⟩⟩
          refine ⟨.bool false, by simp [results, Tryd.results31, go_sem, q0], false, rfl, hAs, ?_, ?_⟩
          · intro _; rfl
          · intro T' hT'; rw [HEq.out, if_neg (fun h => h2 h.2)] at hT'; cases hT'
      · have h1b : (ev == (-1 : Int)) = false := by simpa using h1
        gi_wp2
        obtain ⟨V2, hV2⟩ : ∃ V2, W.setCell ⟨w.heap.size + 1 + 1, 0, none⟩ (.bool false) = V2 := ⟨_, rfl⟩
        rw [hV2]
        have hdV : V2.heap[d]? = some (.deferred (some [])) := by
          rw [← hV2, Below.heap_setCell _ _ _ _ (by show d ≠ w.heap.size + 1 + 1; omega)]; exact HK.out
        have v0 : Blk V2 (w.heap.size + 2) #[.bool false] 4 := by rw [← hV2]; exact HI.out.res.set 0 _
        have q0 : (V2.putObj d (.deferred none)).cell? ⟨w.heap.size + 1 + 1, 0, none⟩ = some (.bool false) := (tk_put v0 (d := d) (o := .deferred none) (by omega)).cell 0 _ rfl
        have hAs : Aside tb w (V2.putObj d (.deferred none)) := by
          rw [← hV2]
          exact tk_aside (HI.out.aside.set (p := ⟨w.heap.size + 1 + 1, 0, none⟩) (.inr (by show _ ≤ w.heap.size + 1 + 1; omega)) _) (by omega)
        have hRw : (V2.putObj d (.deferred none)).rowIs tb tt 96 (fun j => .bool (T1.getD j false)) := by
          obtain ⟨cells, hc1, hc2⟩ := HI.out.row
          exact ⟨cells, by rw [World.putObj_heap_other (by omega), ← hV2, Below.heap_setCell _ _ _ _ (by show tb ≠ w.heap.size + 1 + 1; omega)]; exact hc1, hc2⟩
        refine ⟨by simp, .inl ⟨_, _, rfl, run_takeDeferred hdV, ?_⟩⟩
        refine ⟨.bool false, by simp [results, Tryd.results31, go_sem, q0], false, rfl, hAs, ?_, ?_⟩
        · intro _; rfl
        · intro T' hT'; rw [HEq.out, if_neg (fun h => h1 h.1)] at hT'; cases hT'
    case stop =>
      rintro d c pre C W hd hSp ⟨rfl, hX⟩ hK
      have HX := hide hX
      have HK := hide hK
      have hz0 := HB0.out.2
      have hzv := HV.out.size
      clear hX hK HI0 HT0
      gi_wp2
      have q0 : (W.putObj d (.deferred none)).cell? ⟨w.heap.size + 1 + 1, 0, none⟩ = some (.bool false) := (tk_put HX.out.res (d := d) (o := .deferred none) (by omega)).cell 0 _ rfl
      refine ⟨by simp, .inl ⟨_, _, rfl, run_takeDeferred HK.out, ?_⟩⟩
      refine ⟨.bool false, by simp [results, Tryd.results31, go_sem, q0], false, rfl, tk_aside HX.out.aside (by omega), fun _ => rfl, ?_⟩
      intro T' hT'
      rw [HX.out.none] at hT'
      cases hT'

end Go.Proofs.YtblcmnlbapbebaaDoor
