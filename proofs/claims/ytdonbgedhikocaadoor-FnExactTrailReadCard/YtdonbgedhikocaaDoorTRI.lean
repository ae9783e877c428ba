/- The program's TrailRead. -/
import Derived.Maps.OwnIn
import Derived.Test.YtdonbgedhikocaaDoorLwI
import Derived.Test.YtdonbgedhikocaaDoorRdM
import Derived.Test.YtdonbgedhikocaaDoorMAcc
import Derived.Test.YtdonbgedhikocaaDoorMCopy
import Derived.Test.YtdonbgedhikocaaDoorTkI
namespace Go.Proofs.YtdonbgedhikocaaDoor
open Go.RowKit Go.Shelf
attribute [local go_sem] Oper.semAt_some

theorem takeM_snoc : ∀ (l : List (List ByteArray × Bool)) (x : List ByteArray × Bool) (acc : List Mk), takeM (l ++ [x]) acc = match takeM l acc with
    | some ms => (match markW pathR x.1 with
      | none => none
      | some m => if x.2 = true ∧ ms.length ≠ 6 then some (ms ++ [m]) else none)
    | none => none
  | [], x, acc => by
    rw [List.nil_append, takeM, takeM]
    cases markW pathR x.1 with
    | none => rfl
    | some m => rfl
  | y :: r, x, acc => by
    rw [List.cons_append, takeM, takeM]
    cases markW pathR y.1 with
    | none => rfl
    | some m =>
      simp only
      split
      · exact takeM_snoc r x _
      · rfl
theorem takeM_pre : ∀ (l r : List (List ByteArray × Bool)) (acc : List Mk), takeM l acc = none → takeM (l ++ r) acc = none
  | [], _, _, h => by simp [takeM] at h
  | y :: l, r, acc, h => by
    rw [takeM] at h
    rw [List.cons_append, takeM]
    cases hm : markW pathR y.1 with
    | none => rfl
    | some m =>
      rw [hm] at h
      simp only at h ⊢
      split
      · rename_i hc; rw [if_pos hc] at h; exact takeM_pre l r _ h
      · rfl
theorem takeM_len {l : List (List ByteArray × Bool)} {ms : List Mk} (h : takeM l [] = some ms) : ms.length ≤ 6 := by
  obtain ⟨_, h2, q, h3, h4⟩ := (takeM_some l [] ms (by simp)).1 h
  have := allM_len _ _ _ h3
  rw [h4, List.nil_append, this]
  simp at h2 ⊢
  exact h2

/-- The blocks that the body keeps. -/
def CS (b : Nat) (v : Value) (n : Nat) (bs : Nat → Nat) : Nat → Prop := fun k => (k = b ∨ k = b + 1 ∨ k = b + 2) ∨ v.ownBlock = some k ∨ ∃ i, i < n ∧ bs i = k
/-- Between two rounds. -/
structure TrI (w : World) (pre : List Yw) (C : Nat → Prop) (W : World) (ms : List Mk) (v : Value) (xs : List Value) (bs : Nat → Nat) : Prop where
  took : takeM (pre.map Yw.key) [] = some ms
  cs : C = CS w.heap.size v ms.length bs
  acc : MAcc W (w.heap.size + 4) v ms xs bs
  box : Blk W (w.heap.size + 2) #[v] 22
  r0 : Blk W w.heap.size #[.slice none 0 0] 22
  r1 : Blk W (w.heap.size + 1) #[.bool false] 4
  below : Below w.heap.size w W
  size : w.heap.size + 4 ≤ W.heap.size
theorem TrI.kept {w : World} {pre : List Yw} {C : Nat → Prop} {A B : World} {ms : List Mk} {v : Value} {xs : List Value} {bs : Nat → Nat} {n : Nat} (h : TrI w pre C A ms v xs bs) (hn : w.heap.size ≤ n) (hk : Kept (fun k => k < n ∨ C k) A B) : TrI w pre C B ms v xs bs := by
  have hC := h.cs
  subst hC
  have hz := h.size
  refine ⟨h.took, rfl, h.acc.kept hk (fun k hk => .inr (.inr (.inl hk))) (fun i hi _ => .inr (.inr (.inr ⟨i, hi, rfl⟩))), ?_, ?_, ?_, ?_, Nat.le_trans h.size hk.size⟩
  · exact (hk.block _ (by omega) (.inr (.inl (.inr (.inr rfl))))).trans h.box
  · exact (hk.block _ (by omega) (.inr (.inl (.inl rfl)))).trans h.r0
  · exact (hk.block _ (by omega) (.inr (.inl (.inr (.inl rfl))))).trans h.r1
  · exact h.below.trans (hk.below fun k hk => ⟨by omega, .inl (by omega)⟩)
/-- Left by 'return nil, false'. -/
structure TrX (w : World) (pre : List Yw) (C : Nat → Prop) (W : World) : Prop where
  no : takeM (pre.map Yw.key) [] = none
  cs : C w.heap.size ∧ C (w.heap.size + 1)
  r0 : Blk W w.heap.size #[.slice none 0 0] 22
  r1 : Blk W (w.heap.size + 1) #[.bool false] 4
  below : Below w.heap.size w W
theorem TrX.kept {w : World} {pre : List Yw} {C : Nat → Prop} {A B : World} {n : Nat} (h : TrX w pre C A) (hn : w.heap.size ≤ n) (hk : Kept (fun k => k < n ∨ C k) A B) : TrX w pre C B :=
  ⟨h.no, h.cs, (hk.block _ h.r0.lt (.inr h.cs.1)).trans h.r0, (hk.block _ h.r1.lt (.inr h.cs.2)).trans h.r1, h.below.trans (hk.below fun k hk => ⟨by have := h.r0.lt; omega, .inl (by omega)⟩)⟩

theorem readMark_wds (x : Yw) (C : Nat → Prop) (w : World) (hx : WdsAt x C w) : Calls Tryd.prog 14 #[.slice (some ⟨x.ad, 0, none⟩) x.ws.length x.cap] w fun e w' => Below w.heap.size w w' ∧ ReadM x.ws w e w' := by
  by_cases h : x.ws.length = 2
  · obtain ⟨ad, cap, ws, wh⟩ := x
    match ws, h with
    | [a, b], _ => exact readMark_two ad cap a b w hx.lt (hx.cells 0 (by simp)) (hx.cells 1 (by simp)) (hx.sizes 1 (by simp))
  · exact readMark_no x.ad _ x.cap x.ws rfl h w

theorem tr_leave {w W w1 : World} {pre : List Yw} {x : Yw} {C : Nat → Prop} {ms : List Mk} {v : Value} {xs : List Value} {bs : Nat → Nat} {o : Obj} (hI : TrI w pre C W ms v xs bs) (hC : ∀ k, C k → k < W.heap.size) (hb : Below W.heap.size W w1) (hno : takeM ((pre ++ [x]).map Yw.key) [] = none) :
    Left (fun pre C W => Code.ret = Code.ret ∧ TrX w pre C W) C (pre ++ [x]) W (((w1.alloc o).setCell ⟨w.heap.size, 0, none⟩ (.slice none 0 0)).setCell ⟨w.heap.size + 1, 0, none⟩ (.bool false)) := by
  have hz := hI.size
  have hc := hI.cs
  have c0 : C w.heap.size := by rw [hc]; exact .inl (.inl rfl)
  have c1 : C (w.heap.size + 1) := by rw [hc]; exact .inl (.inr (.inl rfl))
  have hb2 : Below W.heap.size W (w1.alloc o) := hb.alloc hb.size o
  refine ⟨C, ⟨rfl, hno, ⟨c0, c1⟩, ?_, ?_, ?_⟩, ?_, fun k hk => .inl hk, fun k hk => ?_⟩
  · exact ((hI.r0.below hb2 hI.r0.lt).set 0 _).other _ _ (by show w.heap.size ≠ w.heap.size + 1; omega)
  · exact ((hI.r1.below hb2 hI.r1.lt).other _ _ (by show w.heap.size + 1 ≠ w.heap.size; omega)).set 0 _
  · exact ((hI.below.trans (hb2.mono (by omega))).setCell (p := ⟨w.heap.size, 0, none⟩) (Nat.le_refl _) _).setCell (p := ⟨w.heap.size + 1, 0, none⟩) (by show _ ≤ w.heap.size + 1; omega) _
  · refine ⟨hb2.os, hb2.tape, hb2.output, by simpa [World.setCell] using hb2.size, fun k hk hn => ?_⟩
    rw [Below.heap_setCell _ _ _ _ (by show k ≠ w.heap.size + 1; exact fun e => hn (e ▸ c1)), Below.heap_setCell _ _ _ _ (by show k ≠ w.heap.size; exact fun e => hn (e ▸ c0))]
    exact hb2.block k hk
  · have h1 := hC k hk
    have h2 := hb2.size
    have h3 : (((w1.alloc o).setCell ⟨w.heap.size, 0, none⟩ (.slice none 0 0)).setCell ⟨w.heap.size + 1, 0, none⟩ (.bool false)).heap.size = (w1.alloc o).heap.size := by simp [World.setCell]
    omega

theorem acc_row {w W w1 : World} {pre : List Yw} {C : Nat → Prop} {ms : List Mk} {v : Value} {xs : List Value} {bs : Nat → Nat} (hI : TrI w pre C W ms v xs bs) (hb : Below W.heap.size W w1) (o o' : Obj) : ((w1.alloc o).alloc o').ownsRow (w.heap.size + 4) 31 2 v ms.length xs :=
  ((ownsRow_same hI.acc.row (fun g hg => hb.block g (by
    rcases hI.acc.row.2 with ⟨e1, _⟩ | ⟨g', cap, cur, e1, _, e3, _⟩
    · rw [e1] at hg; simp [Value.ownBlock] at hg
    · rw [e1] at hg; simp [Value.ownBlock] at hg; subst hg; exact (Array.getElem?_eq_some_iff.1 e3).1))).alloc o).alloc o'
theorem tr_store {w W w1 w3 : World} {pre : List Yw} {C : Nat → Prop} {ms : List Mk} {v : Value} {xs : List Value} {bs : Nat → Nat} {o o' : Obj} (hI : TrI w pre C W ms v xs bs) (_ : Below W.heap.size W w1) (hg : ((w1.alloc o).alloc o').grownBy w3 v.ownBlock) (hq : Blk w1 (w.heap.size + 2) #[v] 22) : Blk w3 (w.heap.size + 2) #[v] 22 :=
  ((hq.alloc o).alloc o').grown hg (fun e => by
    rcases hI.acc.row.2 with ⟨e1, _⟩ | ⟨g', cap, cur, e1, e2, _⟩
    · rw [e1] at e; simp [Value.ownBlock] at e
    · rw [e1] at e; simp [Value.ownBlock] at e; omega)
theorem mark_sizes {ws : List ByteArray} {m : Mk} (h : markW pathR ws = some m) : ∀ (i : Nat) (h : i < m.path.length), m.path[i].size ≤ maxLen := by
  have h1 := ((markW_map pathR pathS ws m pathR_S).1 h).2
  unfold pathV at h1
  rw [Bool.and_eq_true] at h1
  intro i hi
  have := nameB_size (List.all_eq_true.1 h1.1 _ (List.getElem_mem hi))
  unfold maxLen
  omega

theorem tr_next {w W w1 w3 : World} {pre : List Yw} {x : Yw} {C : Nat → Prop} {ms : List Mk} {v v' : Value} {xs : List Value} {bs : Nat → Nat} {o o' : Obj} {m : Mk} {pa : Option Addr} {pc : Nat} (hI : TrI w pre C W ms v xs bs) (hb : Below W.heap.size W w1)
    (hO : w1.ownsRow W.heap.size 9 1 (.slice pa m.path.length pc) m.path.length (m.path.map .string)) (hsz : ∀ (i : Nat) (h : i < m.path.length), m.path[i].size ≤ maxLen) (htk : takeM ((pre ++ [x]).map Yw.key) [] = some (ms ++ [m]))
    (hg : ((w1.alloc o).alloc o').grownBy w3 v.ownBlock) (hr : w3.ownsRow (w.heap.size + 4) 31 2 v' (ms.length + 1) (xs ++ [.slice pa m.path.length pc, .bool m.sub])) (hat : v'.ownBlock = v.ownBlock ∨ v'.ownBlock = some ((w1.alloc o).alloc o').heap.size) (hst : Blk w3 (w.heap.size + 2) #[v] 22) :
    Left (fun pre C W => ∃ ms v xs bs, TrI w pre C W ms v xs bs) C (pre ++ [x]) W (w3.setCell ⟨w.heap.size + 1 + 1, 0, none⟩ v') := by
  have hz := hI.size
  have hb2 : Below W.heap.size W ((w1.alloc o).alloc o') := (hb.alloc hb.size o).alloc (by have := hb.size; simp; omega) o'
  have hs2 : W.heap.size < ((w1.alloc o).alloc o').heap.size := by have := hb.size; simp; omega
  obtain ⟨bs', hM, hbs, hnew⟩ := hI.acc.add hz hb2 hs2 ((hO.alloc o).alloc o') hsz hg hr hat
  have hc := hI.cs
  have vC : ∀ k, v.ownBlock = some k → C k := fun k hk => by rw [hc]; exact .inr (.inl hk)
  have c2 : C (w.heap.size + 2) := by rw [hc]; exact .inl (.inr (.inr rfl))
  have hk3 : Kept (fun k => ¬ C k) W w3 := (Kept.of_new hb2).trans ⟨hg.os, hg.tape, hg.output, hg.size, fun k hk hn => hg.block k hk (fun e => hn (vC k e.symm))⟩
  have hkB : Below w.heap.size W w3 := by
    refine (hb2.mono (by omega)).grown hg (by omega) (fun k hk => ?_)
    have := row_aside hI.acc.row k hk
    omega
  have hset : Kept (fun k => k ≠ w.heap.size + 2) w3 (w3.setCell ⟨w.heap.size + 1 + 1, 0, none⟩ v') :=
    ⟨rfl, rfl, rfl, by simp [World.setCell], fun k _ hn => Below.heap_setCell _ _ _ _ hn⟩
  have hsize : (w3.setCell ⟨w.heap.size + 1 + 1, 0, none⟩ v').heap.size = w3.heap.size := by simp [World.setCell]
  have hM2 : MAcc (w3.setCell ⟨w.heap.size + 1 + 1, 0, none⟩ v') (w.heap.size + 4) v' (ms ++ [m]) (xs ++ [.slice pa m.path.length pc, .bool m.sub]) bs' :=
    hM.kept hset (fun k hk => by have := row_aside hM.row k hk; omega) (fun i hi _ => by have := (hM.at_ i hi).1; omega)
  have hs3 := hk3.size
  have gro : ∀ b A t, b < w.heap.size + 4 → Blk W b A t → Blk w3 b A t := fun b A t hlt h => (h.below hb2 h.lt).grown hg (fun e => by have := row_aside hI.acc.row b e.symm; omega)
  refine ⟨CS w.heap.size v' (ms ++ [m]).length bs', ⟨_, _, _, _, ⟨htk, rfl, hM2, ?_, ?_, ?_, ?_, by omega⟩⟩, ?_, ?_, ?_⟩
  · exact hst.set 0 v'
  · exact (gro _ _ _ (by omega) hI.r0).other _ _ (by show w.heap.size ≠ _; simp; omega)
  · exact (gro _ _ _ (by omega) hI.r1).other _ _ (by show w.heap.size + 1 ≠ _; simp)
  · exact (hI.below.trans hkB).setCell (p := ⟨w.heap.size + 1 + 1, 0, none⟩) (by show _ ≤ w.heap.size + 1 + 1; omega) _
  · exact hk3.trans (hset.mono fun k _ hn e => hn (e ▸ c2))
  · rintro k (h | h | ⟨i, hi, h⟩)
    · exact .inl (by rw [hc]; exact .inl h)
    · rcases hat with e | e
      · exact .inl (vC k (e ▸ h))
      · rw [e] at h; simp only [Option.some.injEq] at h; exact .inr (by omega)
    · by_cases e : i = ms.length
      · subst e; exact .inr (by omega)
      · have hi2 : i < ms.length := by simp at hi; omega
        exact .inl (by rw [hc]; exact .inr (.inr ⟨i, hi2, by rw [← hbs i hi2]; exact h⟩))
  · rintro k (h | h | ⟨i, hi, h⟩)
    · omega
    · rcases hM.row.2 with ⟨e1, _⟩ | ⟨g, cap, cur, e1, _, e3, _⟩
      · rw [e1] at h; simp [Value.ownBlock] at h
      · rw [e1] at h; simp [Value.ownBlock] at h; subst h
        have := (Array.getElem?_eq_some_iff.1 e3).1
        omega
    · have := (hM.at_ i hi).2.1
      omega

theorem blk_put {W : World} {b : Nat} {A : Array Value} {t : TypeId} (h : Blk W b A t) {d : Nat} {o : Obj} (hd : b ≠ d) : Blk (W.putObj d o) b A t := (World.putObj_heap_other hd).trans h
theorem below_put {W : World} {d n : Nat} {o : Obj} (hd : n ≤ d) : Below n W (W.putObj d o) := by
  have g := grownBy_putObj' W d o
  exact ⟨g.os, g.tape, g.output, g.size, fun k hk => World.putObj_heap_other (by omega)⟩

theorem OwnMks.wide {w : World} {lo hi lo' hi' bk : Nat} {bs : Nat → Nat} {v : Value} {l : List Mk} (h : OwnMks w lo hi bk bs v l) (h1 : lo' ≤ lo) (h2 : hi ≤ hi') : OwnMks w lo' hi' bk bs v l := by
  obtain ⟨hv, hl, hb, hc⟩ := h
  refine ⟨hv, hl, fun h0 => ⟨by have := hb h0; omega, by have := hb h0; omega⟩, fun i hi => ?_⟩
  obtain ⟨hx, pa, pc, c0, c1, f1, hO⟩ := hc i hi
  exact ⟨hx, pa, pc, c0, c1, f1, ownStrs_wide hO h1 h2⟩

/-- What TrailRead gives. -/
def ReadT (s : ByteArray) (w : World) (e : Ending) (w' : World) : Prop := match implV s with
  | some ms => ∃ v bk bs, e = .returned (.tuple #[v, .bool true]) ∧ OwnMks w' w.heap.size w'.heap.size bk bs v ms
  | none => e = .returned (.tuple #[.slice none 0 0, .bool false])

theorem lineWords_any (s : ByteArray) (w : World) : Calls Tryd.prog 13 #[.string s] w fun e w' => e = .returned (.func (.func 23) #[] #[.pointer (some ⟨w.heap.size, 0, none⟩)]) ∧ w' = w.alloc (.cells #[.string s] 9) := by
  go_enter Tryd.func13, Tryd.ntmps13
  go_wp2
  go_ret
  exact ⟨rfl, rfl⟩

set_option maxRecDepth 100000 in
set_option maxHeartbeats 4000000 in
theorem implTrailRead_any (s : ByteArray) (hs : s.size ≤ 1048576) (w : World) :
    Calls Tryd.prog 5 #[.string s] w fun e w' => Below w.heap.size w w' ∧ ReadT s w e w' := by
  refine (callsIn_wide (n := 9)).1 ?_
  refine callsIn_of_wp_marks Tryd.func5 rfl trivial ?_ rfl
  simp only [Tryd.ntmps5, List.size_toArray, List.length_cons, List.length_nil, Nat.reduceAdd, Nat.reduceSub, Array.replicate_succ, Array.replicate_zero, List.push_toArray, List.append_toArray, List.nil_append, List.cons_append]
  gi_wp2_with (refine ⟨trivial, ?_⟩; gi_at_call 13; refine (callsIn_wide.2 (lineWords_any s _)).mono ?_; rintro e w1 ⟨rfl, rfl⟩)
  obtain ⟨W0, hW0⟩ : ∃ W0, (((w.alloc (Obj.cells #[Value.slice none 0 0] 22)).alloc (Obj.cells #[Value.bool false] 4)).alloc (Obj.cells #[Value.slice none 0 0] 22)).alloc (Obj.cells #[Value.string s] 9) = W0 := ⟨_, rfl⟩
  have HZ : Hid (W0.heap.size = w.heap.size + 4) := by subst hW0; show _ = _; simp
  have HB0 : Hid (Below w.heap.size w W0) := by
    subst hW0
    exact ((((Below.refl _ _).alloc (Nat.le_refl _) _).alloc (by simp) _).alloc (by simp; omega) _).alloc (by simp; omega) _
  have HI0 : Hid (TrI w [] (CS w.heap.size (.slice none 0 0) 0 (fun _ => 0)) W0 [] (.slice none 0 0) [] (fun _ => 0)) := by
    refine ⟨rfl, rfl, MAcc.nil _ _ _, ?_, ?_, ?_, HB0.out, by have := HZ.out; omega⟩
    · subst hW0; exact (Blk.atn (by simp)).alloc _
    · subst hW0; exact (((Blk.new _ _ _).alloc _).alloc _).alloc _
    · subst hW0; exact ((Blk.atn (by simp)).alloc _).alloc _
  have HT0 : Hid (W0.cell? ⟨w.heap.size + 1 + 1 + 1, 0, none⟩ = some (.string s)) := by
    subst hW0; exact (Blk.atn (A := #[.string s]) (by simp) : Blk _ _ _ _).cell 0 _ rfl
  rw [hW0]
  clear hW0
  refine rf_law (gf := 23) (lb := #[.pointer (some ⟨w.heap.size + 1 + 1 + 1, 0, none⟩)]) rfl (enters_of Tryd.func23 (by kernel_rfl) rfl)
    (lw_seq s hs (w.heap.size + 1 + 1 + 1) W0 HT0.out) (Below.refl _ _) (fun _ => rfl) (fun _ _ _ _ _ h hc => h.less hc) (fun _ _ _ _ _ h hk => h.kept hk)
    (CS w.heap.size (.slice none 0 0) 0 (fun _ => 0)) ?hD ?hC0
    (fun pre C W => ∃ ms v xs bs, TrI w pre C W ms v xs bs) (fun c pre C W => c = .ret ∧ TrX w pre C W)
    (fun pre C A B ⟨ms, v, xs, bs, h⟩ hk => ⟨ms, v, xs, bs, h.kept HB0.out.size hk⟩) (fun c pre C A B h hk => ⟨h.1, h.2.kept HB0.out.size hk⟩)
    ⟨_, _, _, _, HI0.out⟩
    (fun x a' _ => a' = { tmps := #[.string s, undef, .pointer (some ⟨w.heap.size, 0, none⟩), .pointer (some ⟨w.heap.size + 1, 0, none⟩), .pointer (some ⟨w.heap.size + 1 + 1, 0, none⟩), .slice (some ⟨x.ad, 0, none⟩) x.ws.length x.cap, .bool x.whole, undef, undef, .string s, .func (.func 23) #[] #[.pointer (some ⟨w.heap.size + 1 + 1 + 1, 0, none⟩)], .slice (some ⟨x.ad, 0, none⟩) x.ws.length x.cap, .bool x.whole, undef, undef, undef, undef, undef, undef, undef, undef, undef, undef, undef, undef, undef, undef, undef, undef, undef, undef, undef, undef, undef, undef, undef, undef], defers := [] })
    (fun _ _ _ _ _ _ _ h => h) ?assign ?body ?done ?stop
  case hD =>
    rintro k rfl
    refine ⟨by have := HZ.out; omega, ?_⟩
    rintro (h | h | ⟨i, h, _⟩)
    · omega
    · simp [Value.ownBlock] at h
    · omega
  case hC0 =>
    rintro k (h | h | ⟨i, h, _⟩)
    · have := HZ.out; omega
    · simp [Value.ownBlock] at h
    · omega
  case assign =>
    intro l pre x C W K _ _ hK
    dsimp only [Yw.encs]
    gi_wp2
    exact hK _ _ (Below.refl _ _) rfl
  case body =>
    rintro l pre x C a' W ⟨ms, v, xs, bs, hI⟩ hx hC rfl hl hr
    have HI := hide hI
    have HX := hide hx
    have HC := hide hC
    clear hI hx hC hl hr HI0 HT0
    obtain ⟨b0, b1, b2⟩ : Blk W w.heap.size #[.slice none 0 0] 22 ∧ Blk W (w.heap.size + 1) #[.bool false] 4 ∧ Blk W (w.heap.size + 2) #[v] 22 := ⟨HI.out.r0, HI.out.r1, HI.out.box⟩
    have HRM := hide (readMark_wds x C W HX.out)
    cases hm : markW pathR x.ws with
    | none =>
      have HRN : Hid (Calls Tryd.prog 14 #[.slice (some ⟨x.ad, 0, none⟩) x.ws.length x.cap] W fun e w' => ∃ b : Bool, e = .returned (.tuple #[.agg #[.slice none 0 0, .bool b], .bool false]) ∧ Below W.heap.size W w') := HRM.out.mono fun e w' ⟨h1, h2⟩ => by
        unfold ReadM at h2; rw [hm] at h2; obtain ⟨b, h3⟩ := h2; exact ⟨b, h3, h1⟩
      clear HRM
      gi_wp2_with (refine ⟨trivial, ?_⟩; gi_at_call 14; refine (CallsIn.inRound l (callsIn_wide.2 HRN.out)).mono ?_; rintro e w1 ⟨b, rfl, hB1⟩; have q0 := b0.below hB1 b0.lt; have q1 := b1.below hB1 b1.lt; have Q0 := hide q0; have Q1 := hide q1; have x0 : ∀ o, (w1.alloc o).cell? ⟨w.heap.size, 0, none⟩ = some (.slice none 0 0) := fun o => (q0.alloc o).cell 0 _ rfl; have x1 : ∀ o, (w1.alloc o).cell? ⟨w.heap.size + 1, 0, none⟩ = some (.bool false) := fun o => (q1.alloc o).cell 0 _ rfl; have y0 : ∀ o, (w1.alloc o).frozen? ⟨w.heap.size, 0, none⟩ = false := fun o => (q0.alloc o).frozen 0; have y1 : ∀ o, (w1.alloc o).frozen? ⟨w.heap.size + 1, 0, none⟩ = false := fun o => (q1.alloc o).frozen 0; have hz1 : w.heap.size + 4 ≤ w1.heap.size := (Nat.le_trans HI.out.size hB1.size); have HB1 := hide hB1; clear hB1 q0 q1)
      exact tr_leave HI.out HC.out HB1.out (by rw [List.map_append, List.map_singleton, takeM_snoc, HI.out.took]; show (match markW pathR x.ws with | none => _ | some m => _) = _; rw [hm])
    | some m =>
      have HRY : Hid (Calls Tryd.prog 14 #[.slice (some ⟨x.ad, 0, none⟩) x.ws.length x.cap] W fun e w' => ∃ pa pc, e = .returned (.tuple #[.agg #[.slice pa m.path.length pc, .bool m.sub], .bool true]) ∧ Below W.heap.size W w' ∧ w'.ownsRow W.heap.size 9 1 (.slice pa m.path.length pc) m.path.length (m.path.map .string)) := HRM.out.mono fun e w' ⟨h1, h2⟩ => by
        unfold ReadM at h2; rw [hm] at h2; obtain ⟨pa, pc, h3, h4⟩ := h2; exact ⟨pa, pc, h3, h1, h4⟩
      have HTK : Hid (takeM ((pre ++ [x]).map Yw.key) [] = if x.whole = true ∧ ms.length ≠ 6 then some (ms ++ [m]) else none) := by
        show _ = _
        rw [List.map_append, List.map_singleton, takeM_snoc, HI.out.took]; show (match markW pathR x.ws with | none => _ | some m => _) = _; rw [hm]; rfl
      have HSz : Hid (∀ (i : Nat) (h : i < m.path.length), m.path[i].size ≤ maxLen) := mark_sizes hm
      clear HRM hm
      obtain ⟨va, vc, rfl⟩ := ownsRow_form HI.out.acc.row
      have hl6 := takeM_len HI.out.took
      obtain ⟨ad, cap, ws, whole⟩ := x
      dsimp only at *
      obtain ⟨iM, hiM', hzM, hsM, hbM⟩ := info_M
      have hiM := hide hiM'
      clear hiM'
      by_cases hgo : whole = true ∧ ms.length ≠ 6
      · obtain ⟨rfl, hne⟩ := hgo
        have hne' : ((ms.length : Int) == 6) = false := by simp; omega
        gi_wp2_with (first | (refine ⟨trivial, ?_⟩; gi_at_call 14; refine (CallsIn.inRound l (callsIn_wide.2 HRY.out)).mono ?_; rintro e w1 ⟨pa, pc, rfl, hB1, hO1⟩; have q0 := b0.below hB1 b0.lt; have q1 := b1.below hB1 b1.lt; have q2 := b2.below hB1 b2.lt; have x0 : ∀ o, (w1.alloc o).cell? ⟨w.heap.size, 0, none⟩ = some (.slice none 0 0) := fun o => (q0.alloc o).cell 0 _ rfl; have x1 : ∀ o, (w1.alloc o).cell? ⟨w.heap.size + 1, 0, none⟩ = some (.bool false) := fun o => (q1.alloc o).cell 0 _ rfl; have x2 : ∀ o, (w1.alloc o).cell? ⟨w.heap.size + 1 + 1, 0, none⟩ = some (.slice va ms.length vc) := fun o => (q2.alloc o).cell 0 _ rfl; have y0 : ∀ o, (w1.alloc o).frozen? ⟨w.heap.size, 0, none⟩ = false := fun o => (q0.alloc o).frozen 0; have y1 : ∀ o, (w1.alloc o).frozen? ⟨w.heap.size + 1, 0, none⟩ = false := fun o => (q1.alloc o).frozen 0; have hz1 : w.heap.size + 4 ≤ w1.heap.size := (Nat.le_trans HI.out.size hB1.size); have HB1 := hide hB1; have HO1 := hide hO1; have Q2 := hide q2; clear hB1 hO1 q0 q1 q2) | (gi_at_builtin; refine wpListIn_append_own_at _ rfl _ _ 22 rfl (w.heap.size + 4) 31 iM (.agg #[.slice none 0 0, .bool false]) 2 32 Tryd.underlying22 hiM.out hzM hsM hbM rfl (by decide) _ ms.length xs rfl (acc_row HI.out HB1.out _ _) ⟨w1.heap.size + 1, 0, none⟩ 1 1 [.slice pa m.path.length pc, .bool m.sub] rfl (by simp) (cell_two_new _ _ _ _ (by simp)) (by simp [Value.oneCell']) (by unfold maxLen; omega) (by omega) (by simp; omega) ?_; intro v' w3 hown hgrow hnil hat; have HO3 := hide hown; have HG3 := hide hgrow; have HA3 := hide hat; have HST3 := hide (tr_store HI.out HB1.out hgrow Q2.out); have z0 : w3.cell? ⟨w.heap.size + 1 + 1, 0, none⟩ = some (.slice va ms.length vc) := HST3.out.cell 0 _ rfl; have z1 : w3.frozen? ⟨w.heap.size + 1 + 1, 0, none⟩ = false := HST3.out.frozen 0; obtain ⟨va', vc', rfl⟩ := ownsRow_form hown; clear hown hgrow hat hnil))
        exact tr_next HI.out HB1.out HO1.out HSz.out (by rw [HTK.out, if_pos (by first | exact ⟨rfl, hne⟩ | exact ⟨trivial, hne⟩)]) HG3.out HO3.out HA3.out HST3.out
      · cases whole with
        | false =>
          gi_wp2_with (first | (refine ⟨trivial, ?_⟩; gi_at_call 14; refine (CallsIn.inRound l (callsIn_wide.2 HRY.out)).mono ?_; rintro e w1 ⟨pa, pc, rfl, hB1, hO1⟩; have q0 := b0.below hB1 b0.lt; have q1 := b1.below hB1 b1.lt; have q2 := b2.below hB1 b2.lt; have x0 : ∀ o, (w1.alloc o).cell? ⟨w.heap.size, 0, none⟩ = some (.slice none 0 0) := fun o => (q0.alloc o).cell 0 _ rfl; have x1 : ∀ o, (w1.alloc o).cell? ⟨w.heap.size + 1, 0, none⟩ = some (.bool false) := fun o => (q1.alloc o).cell 0 _ rfl; have x2 : ∀ o, (w1.alloc o).cell? ⟨w.heap.size + 1 + 1, 0, none⟩ = some (.slice va ms.length vc) := fun o => (q2.alloc o).cell 0 _ rfl; have y0 : ∀ o, (w1.alloc o).frozen? ⟨w.heap.size, 0, none⟩ = false := fun o => (q0.alloc o).frozen 0; have y1 : ∀ o, (w1.alloc o).frozen? ⟨w.heap.size + 1, 0, none⟩ = false := fun o => (q1.alloc o).frozen 0; have hz1 : w.heap.size + 4 ≤ w1.heap.size := (Nat.le_trans HI.out.size hB1.size); have HB1 := hide hB1; have HO1 := hide hO1; have Q2 := hide q2; clear hB1 hO1 q0 q1 q2) | (gi_at_builtin; refine wpListIn_append_own_at _ rfl _ _ 22 rfl (w.heap.size + 4) 31 iM (.agg #[.slice none 0 0, .bool false]) 2 32 Tryd.underlying22 hiM.out hzM hsM hbM rfl (by decide) _ ms.length xs rfl (acc_row HI.out HB1.out _ _) ⟨w1.heap.size + 1, 0, none⟩ 1 1 [.slice pa m.path.length pc, .bool m.sub] rfl (by simp) (cell_two_new _ _ _ _ (by simp)) (by simp [Value.oneCell']) (by unfold maxLen; omega) (by omega) (by simp; omega) ?_; intro v' w3 hown hgrow hnil hat; have HO3 := hide hown; have HG3 := hide hgrow; have HA3 := hide hat; have HST3 := hide (tr_store HI.out HB1.out hgrow Q2.out); have z0 : w3.cell? ⟨w.heap.size + 1 + 1, 0, none⟩ = some (.slice va ms.length vc) := HST3.out.cell 0 _ rfl; have z1 : w3.frozen? ⟨w.heap.size + 1 + 1, 0, none⟩ = false := HST3.out.frozen 0; obtain ⟨va', vc', rfl⟩ := ownsRow_form hown; clear hown hgrow hat hnil))
          exact tr_leave HI.out HC.out HB1.out (by rw [HTK.out, if_neg (by simp)])
        | true =>
          have h6 : ms.length = 6 := by
            apply Classical.byContradiction
            exact fun h => hgo ⟨rfl, h⟩
          have h6' : ((ms.length : Int) == 6) = true := by simp; omega
          gi_wp2_with (first | (refine ⟨trivial, ?_⟩; gi_at_call 14; refine (CallsIn.inRound l (callsIn_wide.2 HRY.out)).mono ?_; rintro e w1 ⟨pa, pc, rfl, hB1, hO1⟩; have q0 := b0.below hB1 b0.lt; have q1 := b1.below hB1 b1.lt; have q2 := b2.below hB1 b2.lt; have x0 : ∀ o, (w1.alloc o).cell? ⟨w.heap.size, 0, none⟩ = some (.slice none 0 0) := fun o => (q0.alloc o).cell 0 _ rfl; have x1 : ∀ o, (w1.alloc o).cell? ⟨w.heap.size + 1, 0, none⟩ = some (.bool false) := fun o => (q1.alloc o).cell 0 _ rfl; have x2 : ∀ o, (w1.alloc o).cell? ⟨w.heap.size + 1 + 1, 0, none⟩ = some (.slice va ms.length vc) := fun o => (q2.alloc o).cell 0 _ rfl; have y0 : ∀ o, (w1.alloc o).frozen? ⟨w.heap.size, 0, none⟩ = false := fun o => (q0.alloc o).frozen 0; have y1 : ∀ o, (w1.alloc o).frozen? ⟨w.heap.size + 1, 0, none⟩ = false := fun o => (q1.alloc o).frozen 0; have hz1 : w.heap.size + 4 ≤ w1.heap.size := (Nat.le_trans HI.out.size hB1.size); have HB1 := hide hB1; have HO1 := hide hO1; have Q2 := hide q2; clear hB1 hO1 q0 q1 q2) | (gi_at_builtin; refine wpListIn_append_own_at _ rfl _ _ 22 rfl (w.heap.size + 4) 31 iM (.agg #[.slice none 0 0, .bool false]) 2 32 Tryd.underlying22 hiM.out hzM hsM hbM rfl (by decide) _ ms.length xs rfl (acc_row HI.out HB1.out _ _) ⟨w1.heap.size + 1, 0, none⟩ 1 1 [.slice pa m.path.length pc, .bool m.sub] rfl (by simp) (cell_two_new _ _ _ _ (by simp)) (by simp [Value.oneCell']) (by unfold maxLen; omega) (by omega) (by simp; omega) ?_; intro v' w3 hown hgrow hnil hat; have HO3 := hide hown; have HG3 := hide hgrow; have HA3 := hide hat; have HST3 := hide (tr_store HI.out HB1.out hgrow Q2.out); have z0 : w3.cell? ⟨w.heap.size + 1 + 1, 0, none⟩ = some (.slice va ms.length vc) := HST3.out.cell 0 _ rfl; have z1 : w3.frozen? ⟨w.heap.size + 1 + 1, 0, none⟩ = false := HST3.out.frozen 0; obtain ⟨va', vc', rfl⟩ := ownsRow_form hown; clear hown hgrow hat hnil))
          exact tr_leave HI.out HC.out HB1.out (by rw [HTK.out, if_neg hgo])
  case done =>
    rintro d pre C W hd hS ⟨ms, v, xs, bs, hI⟩ hK
    have HI := hide hI
    have HK := hide hK
    have HS := hide hS
    clear hI hS hK HI0 HT0
    have HOK := hide (implTrailOk_any ms v W (w.heap.size + 4) W.heap.size HI.out.acc.mcs (Nat.le_refl _))
    obtain ⟨va, vc, rfl⟩ := ownsRow_form HI.out.acc.row
    have c4 : W.cell? ⟨w.heap.size + 1 + 1, 0, none⟩ = some (.slice va ms.length vc) := HI.out.box.cell 0 _ rfl
    have b0 := HI.out.r0
    have b1 := HI.out.r1
    have hz0 := HZ.out
    have HV : Hid (implV s = if trailB ms = true then some ms else none) := by
      show _ = _
      unfold implV
      rw [← HS.out, HI.out.took]
    cases hok : trailB ms with
    | false =>
      rw [hok] at HOK HV
      gi_wp2_with (refine ⟨trivial, ?_⟩; gi_at_call 15; refine (callsIn_wide.2 HOK.out).mono ?_; rintro e w1 ⟨rfl, hB1⟩; have q0 := b0.below hB1 b0.lt; have q1 := b1.below hB1 b1.lt; have Q0 := hide q0; have Q1 := hide q1; have x0 := q0.cell 0 _ rfl; have x1 := q1.cell 0 _ rfl; have y0 := q0.frozen 0; have y1 := q1.frozen 0; have HB1 := hide hB1; clear hB1 q0 q1)
      obtain ⟨V, hV⟩ : ∃ V, (w1.setCell ⟨w.heap.size, 0, none⟩ (.slice none 0 0)).setCell ⟨w.heap.size + 1, 0, none⟩ (.bool false) = V := ⟨_, rfl⟩
      rw [hV]
      have hdW : d < W.heap.size := (Array.getElem?_eq_some_iff.1 HK.out).1
      have hdV : V.heap[d]? = some (.deferred (some [])) := by
        rw [← hV, Below.heap_setCell _ _ _ _ (by show d ≠ w.heap.size + 1; omega), Below.heap_setCell _ _ _ _ (by show d ≠ w.heap.size; omega), HB1.out.block d hdW]; exact HK.out
      have v0 : Blk V w.heap.size #[.slice none 0 0] 22 := by rw [← hV]; exact (Q0.out.set 0 _).other _ _ (by show w.heap.size ≠ w.heap.size + 1; omega)
      have v1 : Blk V (w.heap.size + 1) #[.bool false] 4 := by rw [← hV]; exact (Q1.out.other _ _ (by show w.heap.size + 1 ≠ w.heap.size; omega)).set 0 _
      have q0 := (blk_put v0 (d := d) (o := .deferred none) (by omega)).cell 0 _ rfl
      have q1 := (blk_put v1 (d := d) (o := .deferred none) (by omega)).cell 0 _ rfl
      have hBV : Below w.heap.size w V := by
        rw [← hV]
        exact ((HI.out.below.trans (HB1.out.mono (by omega))).setCell (p := ⟨w.heap.size, 0, none⟩) (Nat.le_refl _) _).setCell (p := ⟨w.heap.size + 1, 0, none⟩) (by show _ ≤ w.heap.size + 1; omega) _
      refine ⟨by simp, .inl ⟨_, _, rfl, run_takeDeferred hdV, ?_⟩⟩
      refine ⟨.tuple #[.slice none 0 0, .bool false], by simp [results, Tryd.results5, go_sem, q0, q1], ?_, ?_⟩
      · exact hBV.trans (below_put (by omega))
      · unfold ReadT
        rw [HV.out]
        rfl
    | true =>
      rw [hok] at HOK HV
      have b2 := HI.out.box
      gi_wp2_with (refine ⟨trivial, ?_⟩; gi_at_call 15; refine (callsIn_wide.2 HOK.out).mono ?_; rintro e w1 ⟨rfl, hB1⟩; have q0 := b0.below hB1 b0.lt; have q1 := b1.below hB1 b1.lt; have q2 := b2.below hB1 b2.lt; have Q0 := hide q0; have Q1 := hide q1; have x0 := q0.cell 0 _ rfl; have x1 := q1.cell 0 _ rfl; have x2 : w1.cell? ⟨w.heap.size + 1 + 1, 0, none⟩ = some (.slice va ms.length vc) := q2.cell 0 _ rfl; have y0 := q0.frozen 0; have y1 := q1.frozen 0; have HB1 := hide hB1; clear hB1 q0 q1 q2)
      obtain ⟨V, hV⟩ : ∃ V, (w1.setCell ⟨w.heap.size, 0, none⟩ (.slice va ms.length vc)).setCell ⟨w.heap.size + 1, 0, none⟩ (.bool true) = V := ⟨_, rfl⟩
      rw [hV]
      have hdW : d < W.heap.size := (Array.getElem?_eq_some_iff.1 HK.out).1
      have hdV : V.heap[d]? = some (.deferred (some [])) := by
        rw [← hV, Below.heap_setCell _ _ _ _ (by show d ≠ w.heap.size + 1; omega), Below.heap_setCell _ _ _ _ (by show d ≠ w.heap.size; omega), HB1.out.block d hdW]; exact HK.out
      have v0 : Blk V w.heap.size #[.slice va ms.length vc] 22 := by rw [← hV]; exact (Q0.out.set 0 _).other _ _ (by show w.heap.size ≠ w.heap.size + 1; omega)
      have v1 : Blk V (w.heap.size + 1) #[.bool true] 4 := by rw [← hV]; exact (Q1.out.other _ _ (by show w.heap.size + 1 ≠ w.heap.size; omega)).set 0 _
      have q0 := (blk_put v0 (d := d) (o := .deferred none) (by omega)).cell 0 _ rfl
      have q1 := (blk_put v1 (d := d) (o := .deferred none) (by omega)).cell 0 _ rfl
      have hBV : Below w.heap.size w V := by
        rw [← hV]
        exact ((HI.out.below.trans (HB1.out.mono (by omega))).setCell (p := ⟨w.heap.size, 0, none⟩) (Nat.le_refl _) _).setCell (p := ⟨w.heap.size + 1, 0, none⟩) (by show _ ≤ w.heap.size + 1; omega) _
      have hkV : Kept (fun k => w.heap.size + 4 ≤ k) W V := by
        refine ⟨?_, ?_, ?_, ?_, fun k hk hK => ?_⟩
        · rw [← hV]; exact HB1.out.os
        · rw [← hV]; exact HB1.out.tape
        · rw [← hV]; exact HB1.out.output
        · rw [← hV]; simpa [World.setCell] using HB1.out.size
        · rw [← hV, Below.heap_setCell _ _ _ _ (by show k ≠ w.heap.size + 1; omega), Below.heap_setCell _ _ _ _ (by show k ≠ w.heap.size; omega)]; exact HB1.out.block k hk
      have hA : MAcc V (w.heap.size + 4) (.slice va ms.length vc) ms xs bs := HI.out.acc.kept hkV (fun k hk => row_aside HI.out.acc.row k hk) (fun i hi _ => (HI.out.acc.at_ i hi).1)
      -- the row and the paths lie aside from the loop's own block
      refine ⟨by simp, .inl ⟨_, _, rfl, run_takeDeferred hdV, ?_⟩⟩
      refine ⟨.tuple #[.slice va ms.length vc, .bool true], by simp [results, Tryd.results5, go_sem, q0, q1], ?_, ?_⟩
      · exact hBV.trans (below_put (by omega))
      · unfold ReadT
        rw [HV.out]
        have hnd : ∀ b A (t : TypeId), Blk V b A t → b ≠ d := fun b A t h e => by subst e; rw [h] at hdV; cases hdV
        have hA2 : MAcc (V.putObj d (.deferred none)) (w.heap.size + 4) (.slice va ms.length vc) ms xs bs := by
          refine hA.kept (K := fun k => k ≠ d) (Kept.putObj _ _ _ (fun h => h rfl)) (fun k hk => ?_) (fun i hi h0 => ?_)
          · rcases hA.row.2 with ⟨e1, _⟩ | ⟨g, cap, cur, e1, _, e3, _⟩
            · rw [e1] at hk; simp [Value.ownBlock] at hk
            · rw [e1] at hk; simp [Value.ownBlock] at hk; subst hk; exact hnd _ _ _ e3
          · obtain ⟨pa, pc, _, _, hO, _⟩ := hA.paths i hi
            intro e
            have hc := (hO.2.2.2.2 0 h0).1
            rw [e] at hc
            unfold World.cell? at hc
            rw [show (⟨d, 0, none⟩ : Addr).block = d from rfl, hdV] at hc
            cases hc
        obtain ⟨bk, hO⟩ := hA2.own
        exact ⟨_, bk, bs, rfl, hO.wide (by omega) (Nat.le_refl _)⟩
  case stop =>
    rintro d c pre C W hd hSp ⟨rfl, hX⟩ hK
    have HX := hide hX
    have HK := hide hK
    clear hX hK HI0 HT0
    gi_wp2
    have hz0 := HZ.out
    have q0 := (blk_put HX.out.r0 (d := d) (o := .deferred none) (by omega)).cell 0 _ rfl
    have q1 := (blk_put HX.out.r1 (d := d) (o := .deferred none) (by omega)).cell 0 _ rfl
    refine ⟨by simp, .inl ⟨_, _, rfl, run_takeDeferred HK.out, ?_⟩⟩
    refine ⟨.tuple #[.slice none 0 0, .bool false], by simp [results, Tryd.results5, go_sem, q0, q1], ?_, ?_⟩
    · exact HX.out.below.trans (below_put (by omega))
    · unfold ReadT implV
      obtain ⟨r, hr⟩ := hSp
      rw [← hr, takeM_pre _ _ _ HX.out.no]

end Go.Proofs.YtdonbgedhikocaaDoor
