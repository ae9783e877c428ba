/- For the program's LayerRead: what is read so far, and what a round leaves. -/
import Derived.Maps.OwnIn
import Derived.Test.YtkidfflmbfnogaaDoorLwI
import Derived.Test.YtkidfflmbfnogaaDoorRdW
import Derived.Test.YtkidfflmbfnogaaDoorEAcc
namespace Go.Proofs.YtkidfflmbfnogaaDoor
open Go.RowKit Go.Shelf
attribute [local go_sem] Oper.semAt_some

/-- The program's reading: line by line. -/
def takeE : List (List ByteArray × Bool) → List Ent → Option (List Ent)
  | [], acc => some acc
  | x :: r, acc => match readE x.1 with
    | none => none
    | some m => if x.2 = true then takeE r (acc ++ [m]) else none
theorem takeE_snoc : ∀ (l : List (List ByteArray × Bool)) (x : List ByteArray × Bool) (acc : List Ent), takeE (l ++ [x]) acc = match takeE l acc with
    | some ms => (match readE x.1 with
      | none => none
      | some m => if x.2 = true then some (ms ++ [m]) else none)
    | none => none
  | [], x, acc => by
    rw [List.nil_append, takeE, takeE]
    cases readE x.1 with
    | none => rfl
    | some m => rfl
  | y :: r, x, acc => by
    rw [List.cons_append, takeE, takeE]
    cases readE y.1 with
    | none => rfl
    | some m =>
      simp only
      split
      · exact takeE_snoc r x _
      · rfl
theorem takeE_pre : ∀ (l r : List (List ByteArray × Bool)) (acc : List Ent), takeE l acc = none → takeE (l ++ r) acc = none
  | [], _, _, h => by simp [takeE] at h
  | y :: l, r, acc, h => by
    rw [takeE] at h
    rw [List.cons_append, takeE]
    cases hm : readE y.1 with
    | none => rfl
    | some m =>
      rw [hm] at h
      simp only at h ⊢
      split
      · rename_i hc; rw [if_pos hc] at h; exact takeE_pre l r _ h
      · rfl
theorem takeE_len : ∀ (l : List (List ByteArray × Bool)) (acc ms : List Ent), takeE l acc = some ms → ms.length = acc.length + l.length
  | [], acc, ms, h => by rw [takeE] at h; cases h; simp
  | y :: l, acc, ms, h => by
    rw [takeE] at h
    cases hm : readE y.1 with
    | none => rw [hm] at h; cases h
    | some m =>
      rw [hm] at h
      simp only at h
      split at h
      · have := takeE_len l _ ms h
        simp at this ⊢
        omega
      · cases h
theorem tells_len (s : ByteArray) : (tellsB s).length ≤ s.size + 1 := by
  have h := cutB_len 10 s
  have h0 : cutB 10 s ≠ [] := by unfold cutB; simp [segs_ne]
  have h1 : 0 < (cutB 10 s).length := List.length_pos_iff.2 h0
  unfold tellsB
  split
  · simp; omega
  · simp; omega

/-- The blocks that the body keeps. -/
def CS (b : Nat) (v : Value) (n : Nat) (bs : Nat → Nat) : Nat → Prop := fun k => (k = b ∨ k = b + 1 ∨ k = b + 2) ∨ v.ownBlock = some k ∨ ∃ i, i < n ∧ bs i = k
/-- Between two rounds. -/
structure TrI (w : World) (pre : List Yw) (C : Nat → Prop) (W : World) (ms : List Ent) (v : Value) (xs : List Value) (bs : Nat → Nat) : Prop where
  took : takeE (pre.map Yw.key) [] = some ms
  cs : C = CS w.heap.size v ms.length bs
  acc : EAcc W (w.heap.size + 4) v ms xs bs
  box : Blk W (w.heap.size + 2) #[v] 22
  r0 : Blk W w.heap.size #[.slice none 0 0] 22
  r1 : Blk W (w.heap.size + 1) #[.bool false] 4
  below : Below w.heap.size w W
  size : w.heap.size + 4 ≤ W.heap.size
theorem TrI.kept {w : World} {pre : List Yw} {C : Nat → Prop} {A B : World} {ms : List Ent} {v : Value} {xs : List Value} {bs : Nat → Nat} {n : Nat} (h : TrI w pre C A ms v xs bs) (hn : w.heap.size ≤ n) (hk : Kept (fun k => k < n ∨ C k) A B) : TrI w pre C B ms v xs bs := by
  have hC := h.cs
  subst hC
  have hz := h.size
  refine ⟨h.took, rfl, h.acc.kept hk (fun k hk => .inr (.inr (.inl hk))) (fun i hi _ => .inr (.inr (.inr ⟨i, hi, rfl⟩))), ?_, ?_, ?_, ?_, Nat.le_trans h.size hk.size⟩
  · exact (hk.block _ (by omega) (.inr (.inl (.inr (.inr rfl))))).trans h.box
  · exact (hk.block _ (by omega) (.inr (.inl (.inl rfl)))).trans h.r0
  · exact (hk.block _ (by omega) (.inr (.inl (.inr (.inl rfl))))).trans h.r1
  · exact h.below.trans (hk.below fun k hk => ⟨by omega, .inl (by omega)⟩)
/-- Left by 'return nil, false'. -/
structure TrX (w : World) (pre : List Yw) (C : Nat → Prop) (W : World) : Prop where
  no : takeE (pre.map Yw.key) [] = none
  cs : C w.heap.size ∧ C (w.heap.size + 1)
  r0 : Blk W w.heap.size #[.slice none 0 0] 22
  r1 : Blk W (w.heap.size + 1) #[.bool false] 4
  below : Below w.heap.size w W
theorem TrX.kept {w : World} {pre : List Yw} {C : Nat → Prop} {A B : World} {n : Nat} (h : TrX w pre C A) (hn : w.heap.size ≤ n) (hk : Kept (fun k => k < n ∨ C k) A B) : TrX w pre C B :=
  ⟨h.no, h.cs, (hk.block _ h.r0.lt (.inr h.cs.1)).trans h.r0, (hk.block _ h.r1.lt (.inr h.cs.2)).trans h.r1, h.below.trans (hk.below fun k hk => ⟨by have := h.r0.lt; omega, .inl (by omega)⟩)⟩

theorem tr_leave {w W w1 : World} {pre : List Yw} {x : Yw} {C : Nat → Prop} {ms : List Ent} {v : Value} {xs : List Value} {bs : Nat → Nat} {o : Obj} (hI : TrI w pre C W ms v xs bs) (hC : ∀ k, C k → k < W.heap.size) (hb : Below W.heap.size W w1) (hno : takeE ((pre ++ [x]).map Yw.key) [] = none) :
    Left (fun pre C W => Code.ret = Code.ret ∧ TrX w pre C W) C (pre ++ [x]) W (((w1.alloc o).setCell ⟨w.heap.size, 0, none⟩ (.slice none 0 0)).setCell ⟨w.heap.size + 1, 0, none⟩ (.bool false)) := by
  have hz := hI.size
  have hc := hI.cs
  have c0 : C w.heap.size := by rw [hc]; exact .inl (.inl rfl)
  have c1 : C (w.heap.size + 1) := by rw [hc]; exact .inl (.inr (.inl rfl))
  have hb2 : Below W.heap.size W (w1.alloc o) := hb.alloc hb.size o
  refine ⟨C, ⟨rfl, hno, ⟨c0, c1⟩, ?_, ?_, ?_⟩, ?_, fun k hk => .inl hk, fun k hk => ?_⟩
  · exact ((hI.r0.below hb2 hI.r0.lt).set 0 _).other _ _ (by show w.heap.size ≠ w.heap.size + 1; omega)
  · exact ((hI.r1.below hb2 hI.r1.lt).other _ _ (by show w.heap.size + 1 ≠ w.heap.size; omega)).set 0 _
  · exact ((hI.below.trans (hb2.mono (by omega))).setCell (p := ⟨w.heap.size, 0, none⟩) (Nat.le_refl _) _).setCell (p := ⟨w.heap.size + 1, 0, none⟩) (by show _ ≤ w.heap.size + 1; omega) _
  · refine ⟨hb2.os, hb2.tape, hb2.output, by simpa [World.setCell] using hb2.size, fun k hk hn => ?_⟩
    rw [Below.heap_setCell _ _ _ _ (by show k ≠ w.heap.size + 1; exact fun e => hn (e ▸ c1)), Below.heap_setCell _ _ _ _ (by show k ≠ w.heap.size; exact fun e => hn (e ▸ c0))]
    exact hb2.block k hk
  · have h1 := hC k hk
    have h2 := hb2.size
    have h3 : (((w1.alloc o).setCell ⟨w.heap.size, 0, none⟩ (.slice none 0 0)).setCell ⟨w.heap.size + 1, 0, none⟩ (.bool false)).heap.size = (w1.alloc o).heap.size := by simp [World.setCell]
    omega

theorem info_E : ∃ i, Tryd.prog.info? 31 = some i ∧ i.zero = some (.agg zeroE') ∧ i.size = 5 ∧ i.bytes = 64 := by
  have h : (Tryd.prog.info? 31).map (fun i => (i.zero, i.size, i.bytes)) = some (some (.agg zeroE'), 5, 64) := by kernel_rfl
  obtain ⟨i, hi, hz⟩ := Option.map_eq_some_iff.1 h
  simp only [Prod.mk.injEq] at hz
  exact ⟨i, hi, hz.1, hz.2.1, hz.2.2⟩
theorem cell_five_new (W : World) (a b c d e : Value) (t : TypeId) {n : Nat} (hn : W.heap.size = n) : ∀ j u, [a, b, c, d, e][j]? = some u → (W.alloc (.cells #[a, b, c, d, e] t)).cell? ((⟨n, 0, none⟩ : Addr).add j) = some u := by
  intro j u hu
  have hb : Blk (W.alloc (.cells #[a, b, c, d, e] t)) n #[a, b, c, d, e] t := Blk.atn hn
  have e : Addr.add ⟨n, 0, none⟩ j = ⟨n, j, none⟩ := by unfold Addr.add; split <;> simp_all
  rw [e]
  refine hb.cell j u ?_
  rw [← Array.getElem?_toList]
  exact hu
theorem acc_row {w W w1 : World} {pre : List Yw} {C : Nat → Prop} {ms : List Ent} {v : Value} {xs : List Value} {bs : Nat → Nat} (hI : TrI w pre C W ms v xs bs) (hb : Below W.heap.size W w1) (o o' : Obj) : ((w1.alloc o).alloc o').ownsRow (w.heap.size + 4) 31 5 v ms.length xs :=
  ((ownsRow_same hI.acc.row (fun g hg => hb.block g (by
    rcases hI.acc.row.2 with ⟨e1, _⟩ | ⟨g', cap, cur, e1, _, e3, _⟩
    · rw [e1] at hg; simp [Value.ownBlock] at hg
    · rw [e1] at hg; simp [Value.ownBlock] at hg; subst hg; exact (Array.getElem?_eq_some_iff.1 e3).1))).alloc o).alloc o'
theorem tr_store {w W w1 w3 : World} {pre : List Yw} {C : Nat → Prop} {ms : List Ent} {v : Value} {xs : List Value} {bs : Nat → Nat} {o o' : Obj} (hI : TrI w pre C W ms v xs bs) (_ : Below W.heap.size W w1) (hg : ((w1.alloc o).alloc o').grownBy w3 v.ownBlock) (hq : Blk w1 (w.heap.size + 2) #[v] 22) : Blk w3 (w.heap.size + 2) #[v] 22 :=
  ((hq.alloc o).alloc o').grown hg (fun e => by
    rcases hI.acc.row.2 with ⟨e1, _⟩ | ⟨g', cap, cur, e1, e2, _⟩
    · rw [e1] at e; simp [Value.ownBlock] at e
    · rw [e1] at e; simp [Value.ownBlock] at e; omega)
theorem ent_sizes {ws : List ByteArray} {m : Ent} (h : readE ws = some m) : ∀ (i : Nat) (h : i < m.path.length), m.path[i].size ≤ maxLen := by
  have he : entB m = true := by
    have key : ∀ (x : Option (List ByteArray)) (f : List ByteArray → Option Ent), (∀ p e, f p = some e → entB e = true) → x.bind f = some m → entB m = true := fun x f hf h => by
      obtain ⟨p, _, h2⟩ := Option.bind_eq_some_iff.1 h
      exact hf p m h2
    rw [read_same] at h
    match ws with
    | [] => simp [readL] at h
    | [_] => simp [readL] at h
    | [a, b] =>
      simp only [readL] at h
      split at h
      · exact key _ _ (fun p e h => by have := chk_some h; rw [this.2]; exact this.1) h
      · cases h
    | [a, b, c] =>
      simp only [readL] at h
      split at h
      · exact key _ _ (fun p e h => by have := chk_some h; rw [this.2]; exact this.1) h
      · split at h
        · exact key _ _ (fun p e h => by have := chk_some h; rw [this.2]; exact this.1) h
        · split at h
          · exact key _ _ (fun p e h => by obtain ⟨x, _, h2⟩ := Option.bind_eq_some_iff.1 h; have := chk_some h2; rw [this.2]; exact this.1) h
          · cases h
    | [a, b, c, f] =>
      simp only [readL] at h
      split at h
      · exact key _ _ (fun p e h => by obtain ⟨x, _, h2⟩ := Option.bind_eq_some_iff.1 h; have := chk_some h2; rw [this.2]; exact this.1) h
      · cases h
    | _ :: _ :: _ :: _ :: _ :: _ => simp [readL] at h
  intro i hi
  have := (entB_parts m he).1 _ (List.getElem_mem hi)
  unfold maxLen
  omega
theorem tr_next {w W w1 w3 : World} {pre : List Yw} {x : Yw} {C : Nat → Prop} {ms : List Ent} {v v' : Value} {xs : List Value} {bs : Nat → Nat} {o o' : Obj} {m : Ent} {pa : Option Addr} {pc : Nat} (hI : TrI w pre C W ms v xs bs) (hb : Below W.heap.size W w1)
    (hO : w1.ownsRow W.heap.size 9 1 (.slice pa m.path.length pc) m.path.length (m.path.map .string)) (hsz : ∀ (i : Nat) (h : i < m.path.length), m.path[i].size ≤ maxLen) (htk : takeE ((pre ++ [x]).map Yw.key) [] = some (ms ++ [m]))
    (hg : ((w1.alloc o).alloc o').grownBy w3 v.ownBlock) (hr : w3.ownsRow (w.heap.size + 4) 31 5 v' (ms.length + 1) (xs ++ [.slice pa m.path.length pc, .int .i64 m.what, .bool m.dir, .int .i64 m.mode, .string m.data])) (hat : v'.ownBlock = v.ownBlock ∨ v'.ownBlock = some ((w1.alloc o).alloc o').heap.size) (hst : Blk w3 (w.heap.size + 2) #[v] 22) :
    Left (fun pre C W => ∃ ms v xs bs, TrI w pre C W ms v xs bs) C (pre ++ [x]) W (w3.setCell ⟨w.heap.size + 1 + 1, 0, none⟩ v') := by
  have hz := hI.size
  have hb2 : Below W.heap.size W ((w1.alloc o).alloc o') := (hb.alloc hb.size o).alloc (by have := hb.size; simp; omega) o'
  have hs2 : W.heap.size < ((w1.alloc o).alloc o').heap.size := by have := hb.size; simp; omega
  obtain ⟨bs', hM, hbs, hnew⟩ := hI.acc.add hz hb2 hs2 ((hO.alloc o).alloc o') hsz hg hr hat
  have hc := hI.cs
  have vC : ∀ k, v.ownBlock = some k → C k := fun k hk => by rw [hc]; exact .inr (.inl hk)
  have c2 : C (w.heap.size + 2) := by rw [hc]; exact .inl (.inr (.inr rfl))
  have hk3 : Kept (fun k => ¬ C k) W w3 := (Kept.of_new hb2).trans ⟨hg.os, hg.tape, hg.output, hg.size, fun k hk hn => hg.block k hk (fun e => hn (vC k e.symm))⟩
  have hkB : Below w.heap.size W w3 := by
    refine (hb2.mono (by omega)).grown hg (by omega) (fun k hk => ?_)
    have := row_aside hI.acc.row k hk
    omega
  have hset : Kept (fun k => k ≠ w.heap.size + 2) w3 (w3.setCell ⟨w.heap.size + 1 + 1, 0, none⟩ v') :=
    ⟨rfl, rfl, rfl, by simp [World.setCell], fun k _ hn => Below.heap_setCell _ _ _ _ hn⟩
  have hsize : (w3.setCell ⟨w.heap.size + 1 + 1, 0, none⟩ v').heap.size = w3.heap.size := by simp [World.setCell]
  have hM2 : EAcc (w3.setCell ⟨w.heap.size + 1 + 1, 0, none⟩ v') (w.heap.size + 4) v' (ms ++ [m]) (xs ++ [.slice pa m.path.length pc, .int .i64 m.what, .bool m.dir, .int .i64 m.mode, .string m.data]) bs' :=
    hM.kept hset (fun k hk => by have := row_aside hM.row k hk; omega) (fun i hi _ => by have := (hM.at_ i hi).1; omega)
  have hs3 := hk3.size
  have gro : ∀ b A t, b < w.heap.size + 4 → Blk W b A t → Blk w3 b A t := fun b A t hlt h => (h.below hb2 h.lt).grown hg (fun e => by have := row_aside hI.acc.row b e.symm; omega)
  refine ⟨CS w.heap.size v' (ms ++ [m]).length bs', ⟨_, _, _, _, ⟨htk, rfl, hM2, ?_, ?_, ?_, ?_, by omega⟩⟩, ?_, ?_, ?_⟩
  · exact hst.set 0 v'
  · exact (gro _ _ _ (by omega) hI.r0).other _ _ (by show w.heap.size ≠ _; simp; omega)
  · exact (gro _ _ _ (by omega) hI.r1).other _ _ (by show w.heap.size + 1 ≠ _; simp)
  · exact (hI.below.trans hkB).setCell (p := ⟨w.heap.size + 1 + 1, 0, none⟩) (by show _ ≤ w.heap.size + 1 + 1; omega) _
  · exact hk3.trans (hset.mono fun k _ hn e => hn (e ▸ c2))
  · rintro k (h | h | ⟨i, hi, h⟩)
    · exact .inl (by rw [hc]; exact .inl h)
    · rcases hat with e | e
      · exact .inl (vC k (e ▸ h))
      · rw [e] at h; simp only [Option.some.injEq] at h; exact .inr (by omega)
    · by_cases e : i = ms.length
      · subst e; exact .inr (by omega)
      · have hi2 : i < ms.length := by simp at hi; omega
        exact .inl (by rw [hc]; exact .inr (.inr ⟨i, hi2, by rw [← hbs i hi2]; exact h⟩))
  · rintro k (h | h | ⟨i, hi, h⟩)
    · omega
    · rcases hM.row.2 with ⟨e1, _⟩ | ⟨g, cap, cur, e1, _, e3, _⟩
      · rw [e1] at h; simp [Value.ownBlock] at h
      · rw [e1] at h; simp [Value.ownBlock] at h; subst h
        have := (Array.getElem?_eq_some_iff.1 e3).1
        omega
    · have := (hM.at_ i hi).2.1
      omega

theorem blk_put {W : World} {b : Nat} {A : Array Value} {t : TypeId} (h : Blk W b A t) {d : Nat} {o : Obj} (hd : b ≠ d) : Blk (W.putObj d o) b A t := (World.putObj_heap_other hd).trans h
theorem below_put {W : World} {d n : Nat} {o : Obj} (hd : n ≤ d) : Below n W (W.putObj d o) := by
  have g := grownBy_putObj' W d o
  exact ⟨g.os, g.tape, g.output, g.size, fun k hk => World.putObj_heap_other (by omega)⟩

/-- What LayerRead gives. -/
def entsV (s : ByteArray) : Option (List Ent) := if s.size ≤ 6000 then takeE (tellsB s) [] else none
def ReadLy (s : ByteArray) (w : World) (e : Ending) (w' : World) : Prop := match entsV s with
  | some ms => ∃ v xs bs, e = .returned (.tuple #[v, .bool true]) ∧ EAcc w' (w.heap.size + 4) v ms xs bs
  | none => e = .returned (.tuple #[.slice none 0 0, .bool false])

theorem lineWords_any (s : ByteArray) (w : World) : Calls Tryd.prog 11 #[.string s] w fun e w' => e = .returned (.func (.func 21) #[] #[.pointer (some ⟨w.heap.size, 0, none⟩)]) ∧ w' = w.alloc (.cells #[.string s] 9) := by
  go_enter Tryd.func11, Tryd.ntmps11
  go_wp2
  go_ret
  exact ⟨rfl, rfl⟩

end Go.Proofs.YtkidfflmbfnogaaDoor

/- The program's LayerRead. -/
namespace Go.Proofs.YtkidfflmbfnogaaDoor
open Go.RowKit Go.Shelf
attribute [local go_sem] Oper.semAt_some

set_option maxRecDepth 100000 in
set_option maxHeartbeats 4000000 in
theorem implLayerRead_any (B : Nat) (s : ByteArray) (hs0 : s.size ≤ 1048576) (w : World) (hF : FormsAt w) (hE : Env B w) (hB : B ≤ w.heap.size) :
    Calls Tryd.prog 5 #[.string s] w fun e w' => Below w.heap.size w w' ∧ ReadLy s w e w' := by
  by_cases hs : s.size ≤ 6000
  case neg =>
    have hV : entsV s = none := by unfold entsV; rw [if_neg hs]
    have hsi : (6000 : Int) < (s.size : Int) := by omega
    have HN := hide hV
    clear hV hF hE
    go_enter Tryd.func5, Tryd.ntmps5
    go_wp2_with fail
    refine bodyPost_ret (v := .tuple #[.slice none 0 0, .bool false]) (by simp [results, Tryd.results5, go_sem]) rfl ⟨?_, ?_⟩
    · first
        | exact ((Below.refl _ _).alloc (Nat.le_refl _) _).alloc (by simp) _
        | exact ((((Below.refl _ _).alloc (Nat.le_refl _) _).alloc (by simp) _).setCell (Nat.le_refl _) _).setCell (Nat.le_succ _) _
    · unfold ReadLy
      rw [HN.out]
  have hsi : ¬ (6000 : Int) < (s.size : Int) := by omega
  have HFk : Hid (∀ W, Below w.heap.size w W → FormsAt W) := fun W h => hF.keep h
  have HEk : Hid (∀ W, Below w.heap.size w W → Env B W ∧ B ≤ W.heap.size) := fun W h => ⟨hE.keep (h.mono hB), Nat.le_trans hB h.size⟩
  clear hF hE
  refine (callsIn_wide (n := 9)).1 ?_
  refine callsIn_of_wp_marks Tryd.func5 rfl trivial ?_ rfl
  simp only [Tryd.ntmps5, List.size_toArray, List.length_cons, List.length_nil, Nat.reduceAdd, Nat.reduceSub, Array.replicate_succ, Array.replicate_zero, List.push_toArray, List.append_toArray, List.nil_append, List.cons_append]
  gi_wp2_with (refine ⟨trivial, ?_⟩; gi_at_call 11; refine (callsIn_wide.2 (lineWords_any s _)).mono ?_; rintro e w1 ⟨rfl, rfl⟩)
  obtain ⟨W0, hW0⟩ : ∃ W0, (((w.alloc (Obj.cells #[Value.slice none 0 0] 22)).alloc (Obj.cells #[Value.bool false] 4)).alloc (Obj.cells #[Value.slice none 0 0] 22)).alloc (Obj.cells #[Value.string s] 9) = W0 := ⟨_, rfl⟩
  have HZ : Hid (W0.heap.size = w.heap.size + 4) := by subst hW0; show _ = _; simp
  have HB0 : Hid (Below w.heap.size w W0) := by
    subst hW0
    exact ((((Below.refl _ _).alloc (Nat.le_refl _) _).alloc (by simp) _).alloc (by simp; omega) _).alloc (by simp; omega) _
  have HI0 : Hid (TrI w [] (CS w.heap.size (.slice none 0 0) 0 (fun _ => 0)) W0 [] (.slice none 0 0) [] (fun _ => 0)) := by
    refine ⟨rfl, rfl, EAcc.nil _ _ _, ?_, ?_, ?_, HB0.out, by have := HZ.out; omega⟩
    · subst hW0; exact (Blk.atn (by simp)).alloc _
    · subst hW0; exact (((Blk.new _ _ _).alloc _).alloc _).alloc _
    · subst hW0; exact ((Blk.atn (by simp)).alloc _).alloc _
  have HT0 : Hid (W0.cell? ⟨w.heap.size + 1 + 1 + 1, 0, none⟩ = some (.string s)) := by
    subst hW0; exact (Blk.atn (A := #[.string s]) (by simp) : Blk _ _ _ _).cell 0 _ rfl
  rw [hW0]
  clear hW0
  refine rf_law (gf := 21) (lb := #[.pointer (some ⟨w.heap.size + 1 + 1 + 1, 0, none⟩)]) rfl (enters_of Tryd.func21 (by kernel_rfl) rfl)
    (lw_seq s hs0 (w.heap.size + 1 + 1 + 1) W0 HT0.out) (Below.refl _ _) (fun _ => rfl) (fun _ _ _ _ _ h hc => ⟨h.1.less hc, h.2⟩) (fun _ _ _ _ _ h hk => ⟨h.1.kept hk, h.2⟩)
    (CS w.heap.size (.slice none 0 0) 0 (fun _ => 0)) ?hD ?hC0
    (fun pre C W => ∃ ms v xs bs, TrI w pre C W ms v xs bs) (fun c pre C W => c = .ret ∧ TrX w pre C W)
    (fun pre C A B ⟨ms, v, xs, bs, h⟩ hk => ⟨ms, v, xs, bs, h.kept HB0.out.size hk⟩) (fun c pre C A B h hk => ⟨h.1, h.2.kept HB0.out.size hk⟩)
    ⟨_, _, _, _, HI0.out⟩
    (fun x a' _ => a' = { tmps := #[.string s, undef, .pointer (some ⟨w.heap.size, 0, none⟩), .pointer (some ⟨w.heap.size + 1, 0, none⟩), .pointer (some ⟨w.heap.size + 1 + 1, 0, none⟩), .slice (some ⟨x.ad, 0, none⟩) x.ws.length x.cap, .bool x.whole, undef, undef, .string s, .int .i64 s.size, .bool false, .string s, .func (.func 21) #[] #[.pointer (some ⟨w.heap.size + 1 + 1 + 1, 0, none⟩)], .slice (some ⟨x.ad, 0, none⟩) x.ws.length x.cap, .bool x.whole, undef, undef, undef, undef, undef, undef, undef, undef, undef, undef, undef, undef, undef, undef, undef, undef], defers := [] })
    (fun _ _ _ _ _ _ _ h => h) ?assign ?body ?done ?stop
  case hD =>
    rintro k rfl
    refine ⟨by have := HZ.out; omega, ?_⟩
    rintro (h | h | ⟨i, h, _⟩)
    · omega
    · simp [Value.ownBlock] at h
    · omega
  case hC0 =>
    rintro k (h | h | ⟨i, h, _⟩)
    · have := HZ.out; omega
    · simp [Value.ownBlock] at h
    · omega
  case assign =>
    intro l pre x C W K _ _ hK
    dsimp only [Yw.encs]
    gi_wp2
    exact hK _ _ (Below.refl _ _) rfl
  case body =>
    rintro l pre x C a' W ⟨ms, v, xs, bs, hI⟩ hx hC rfl hl hr
    have HI := hide hI
    have HX := hide hx
    have HC := hide hC
    clear hI hx hC hl hr HI0 HT0
    obtain ⟨b0, b1, b2⟩ : Blk W w.heap.size #[.slice none 0 0] 22 ∧ Blk W (w.heap.size + 1) #[.bool false] 4 ∧ Blk W (w.heap.size + 2) #[v] 22 := ⟨HI.out.r0, HI.out.r1, HI.out.box⟩
    have HRM := hide (readEntry_wds B x C W HX.out.1 (HFk.out W HI.out.below) (HEk.out W HI.out.below).1 (HEk.out W HI.out.below).2)
    have hlen : ms.length ≤ 6001 := by
      have h1 := takeE_len _ _ _ HI.out.took
      have h2 := HX.out.2.length_le
      have h3 := tells_len s
      simp at h1 h2
      omega
    cases hm : readE x.ws with
    | none =>
      have HRN : Hid (Calls Tryd.prog 12 #[.slice (some ⟨x.ad, 0, none⟩) x.ws.length x.cap] W fun e w' => ∃ (a : Option Addr) (n c : Nat) (wt : Int) (d : Bool) (m : Int) (z : ByteArray), e = .returned (.tuple #[.agg #[.slice a n c, .int .i64 wt, .bool d, .int .i64 m, .string z], .bool false]) ∧ Below W.heap.size W w') := HRM.out.mono fun e w' ⟨h1, h2⟩ => by
        unfold ReadEn at h2; rw [hm] at h2; obtain ⟨a, n, c, wt, d, m, z, h3⟩ := h2; exact ⟨a, n, c, wt, d, m, z, h3, h1⟩
      clear HRM
      gi_wp2_with (refine ⟨trivial, ?_⟩; gi_at_call 12; refine (CallsIn.inRound l (callsIn_wide.2 HRN.out)).mono ?_; rintro e w1 ⟨ea, en, ec, ewt, ed, em, ez, rfl, hB1⟩; have q0 := b0.below hB1 b0.lt; have q1 := b1.below hB1 b1.lt; have Q0 := hide q0; have Q1 := hide q1; have x0 : ∀ o, (w1.alloc o).cell? ⟨w.heap.size, 0, none⟩ = some (.slice none 0 0) := fun o => (q0.alloc o).cell 0 _ rfl; have x1 : ∀ o, (w1.alloc o).cell? ⟨w.heap.size + 1, 0, none⟩ = some (.bool false) := fun o => (q1.alloc o).cell 0 _ rfl; have y0 : ∀ o, (w1.alloc o).frozen? ⟨w.heap.size, 0, none⟩ = false := fun o => (q0.alloc o).frozen 0; have y1 : ∀ o, (w1.alloc o).frozen? ⟨w.heap.size + 1, 0, none⟩ = false := fun o => (q1.alloc o).frozen 0; have hz1 : w.heap.size + 4 ≤ w1.heap.size := (Nat.le_trans HI.out.size hB1.size); have HB1 := hide hB1; clear hB1 q0 q1)
      exact tr_leave HI.out HC.out HB1.out (by rw [List.map_append, List.map_singleton, takeE_snoc, HI.out.took]; show (match readE x.ws with | none => _ | some m => _) = _; rw [hm])
    | some m =>
      have HRY : Hid (Calls Tryd.prog 12 #[.slice (some ⟨x.ad, 0, none⟩) x.ws.length x.cap] W fun e w' => ∃ pa pc, e = .returned (.tuple #[.agg #[.slice pa m.path.length pc, .int .i64 m.what, .bool m.dir, .int .i64 m.mode, .string m.data], .bool true]) ∧ Below W.heap.size W w' ∧ w'.ownsRow W.heap.size 9 1 (.slice pa m.path.length pc) m.path.length (m.path.map .string)) := HRM.out.mono fun e w' ⟨h1, h2⟩ => by
        unfold ReadEn at h2; rw [hm] at h2; obtain ⟨pa, pc, h3, h4⟩ := h2; exact ⟨pa, pc, h3, h1, h4⟩
      have HTK : Hid (takeE ((pre ++ [x]).map Yw.key) [] = if x.whole = true then some (ms ++ [m]) else none) := by
        show _ = _
        rw [List.map_append, List.map_singleton, takeE_snoc, HI.out.took]; show (match readE x.ws with | none => _ | some m => _) = _; rw [hm]; rfl
      have HSz : Hid (∀ (i : Nat) (h : i < m.path.length), m.path[i].size ≤ maxLen) := ent_sizes hm
      clear HRM hm
      obtain ⟨va, vc, rfl⟩ := ownsRow_form HI.out.acc.row
      obtain ⟨ad, cap, ws, whole⟩ := x
      dsimp only at *
      obtain ⟨iM, hiM', hzM, hsM, hbM⟩ := info_E
      have hiM := hide hiM'
      clear hiM'
      cases whole with
      | true =>
        gi_wp2_with (first | (refine ⟨trivial, ?_⟩; gi_at_call 12; refine (CallsIn.inRound l (callsIn_wide.2 HRY.out)).mono ?_; rintro e w1 ⟨pa, pc, rfl, hB1, hO1⟩; have q0 := b0.below hB1 b0.lt; have q1 := b1.below hB1 b1.lt; have q2 := b2.below hB1 b2.lt; have x0 : ∀ o, (w1.alloc o).cell? ⟨w.heap.size, 0, none⟩ = some (.slice none 0 0) := fun o => (q0.alloc o).cell 0 _ rfl; have x1 : ∀ o, (w1.alloc o).cell? ⟨w.heap.size + 1, 0, none⟩ = some (.bool false) := fun o => (q1.alloc o).cell 0 _ rfl; have x2 : ∀ o, (w1.alloc o).cell? ⟨w.heap.size + 1 + 1, 0, none⟩ = some (.slice va ms.length vc) := fun o => (q2.alloc o).cell 0 _ rfl; have y0 : ∀ o, (w1.alloc o).frozen? ⟨w.heap.size, 0, none⟩ = false := fun o => (q0.alloc o).frozen 0; have y1 : ∀ o, (w1.alloc o).frozen? ⟨w.heap.size + 1, 0, none⟩ = false := fun o => (q1.alloc o).frozen 0; have hz1 : w.heap.size + 4 ≤ w1.heap.size := (Nat.le_trans HI.out.size hB1.size); have HB1 := hide hB1; have HO1 := hide hO1; have Q2 := hide q2; clear hB1 hO1 q0 q1 q2) | (gi_at_builtin; refine wpListIn_append_own_at _ rfl _ _ 22 rfl (w.heap.size + 4) 31 iM (.agg zeroE') 5 64 Tryd.underlying22 hiM.out hzM hsM hbM rfl (by decide) _ ms.length xs rfl (acc_row HI.out HB1.out _ _) ⟨w1.heap.size + 1, 0, none⟩ 1 1 [.slice pa m.path.length pc, .int .i64 m.what, .bool m.dir, .int .i64 m.mode, .string m.data] rfl (by simp) (cell_five_new _ _ _ _ _ _ _ (by simp)) (by simp [Value.oneCell']) (by unfold maxLen; omega) (by omega) (by simp; omega) ?_; intro v' w3 hown hgrow hnil hat; have HO3 := hide hown; have HG3 := hide hgrow; have HA3 := hide hat; have HST3 := hide (tr_store HI.out HB1.out hgrow Q2.out); have z0 : w3.cell? ⟨w.heap.size + 1 + 1, 0, none⟩ = some (.slice va ms.length vc) := HST3.out.cell 0 _ rfl; have z1 : w3.frozen? ⟨w.heap.size + 1 + 1, 0, none⟩ = false := HST3.out.frozen 0; obtain ⟨va', vc', rfl⟩ := ownsRow_form hown; clear hown hgrow hat hnil))
        exact tr_next HI.out HB1.out HO1.out HSz.out (by rw [HTK.out]; simp) HG3.out HO3.out HA3.out HST3.out
      | false =>
        gi_wp2_with (first | (refine ⟨trivial, ?_⟩; gi_at_call 12; refine (CallsIn.inRound l (callsIn_wide.2 HRY.out)).mono ?_; rintro e w1 ⟨pa, pc, rfl, hB1, hO1⟩; have q0 := b0.below hB1 b0.lt; have q1 := b1.below hB1 b1.lt; have q2 := b2.below hB1 b2.lt; have x0 : ∀ o, (w1.alloc o).cell? ⟨w.heap.size, 0, none⟩ = some (.slice none 0 0) := fun o => (q0.alloc o).cell 0 _ rfl; have x1 : ∀ o, (w1.alloc o).cell? ⟨w.heap.size + 1, 0, none⟩ = some (.bool false) := fun o => (q1.alloc o).cell 0 _ rfl; have x2 : ∀ o, (w1.alloc o).cell? ⟨w.heap.size + 1 + 1, 0, none⟩ = some (.slice va ms.length vc) := fun o => (q2.alloc o).cell 0 _ rfl; have y0 : ∀ o, (w1.alloc o).frozen? ⟨w.heap.size, 0, none⟩ = false := fun o => (q0.alloc o).frozen 0; have y1 : ∀ o, (w1.alloc o).frozen? ⟨w.heap.size + 1, 0, none⟩ = false := fun o => (q1.alloc o).frozen 0; have hz1 : w.heap.size + 4 ≤ w1.heap.size := (Nat.le_trans HI.out.size hB1.size); have HB1 := hide hB1; have HO1 := hide hO1; have Q2 := hide q2; clear hB1 hO1 q0 q1 q2) | (gi_at_builtin; refine wpListIn_append_own_at _ rfl _ _ 22 rfl (w.heap.size + 4) 31 iM (.agg zeroE') 5 64 Tryd.underlying22 hiM.out hzM hsM hbM rfl (by decide) _ ms.length xs rfl (acc_row HI.out HB1.out _ _) ⟨w1.heap.size + 1, 0, none⟩ 1 1 [.slice pa m.path.length pc, .int .i64 m.what, .bool m.dir, .int .i64 m.mode, .string m.data] rfl (by simp) (cell_five_new _ _ _ _ _ _ _ (by simp)) (by simp [Value.oneCell']) (by unfold maxLen; omega) (by omega) (by simp; omega) ?_; intro v' w3 hown hgrow hnil hat; have HO3 := hide hown; have HG3 := hide hgrow; have HA3 := hide hat; have HST3 := hide (tr_store HI.out HB1.out hgrow Q2.out); have z0 : w3.cell? ⟨w.heap.size + 1 + 1, 0, none⟩ = some (.slice va ms.length vc) := HST3.out.cell 0 _ rfl; have z1 : w3.frozen? ⟨w.heap.size + 1 + 1, 0, none⟩ = false := HST3.out.frozen 0; obtain ⟨va', vc', rfl⟩ := ownsRow_form hown; clear hown hgrow hat hnil))
        exact tr_leave HI.out HC.out HB1.out (by rw [HTK.out]; simp)
  case done =>
    rintro d pre C W hd hS ⟨ms, v, xs, bs, hI⟩ hK
    have HI := hide hI
    have HK := hide hK
    have HS := hide hS
    clear hI hS hK HI0 HT0
    obtain ⟨va, vc, rfl⟩ := ownsRow_form HI.out.acc.row
    have c4 : W.cell? ⟨w.heap.size + 1 + 1, 0, none⟩ = some (.slice va ms.length vc) := HI.out.box.cell 0 _ rfl
    have b0 := HI.out.r0
    have b1 := HI.out.r1
    have hz0 := HZ.out
    have x0 := b0.cell 0 _ rfl
    have x1 := b1.cell 0 _ rfl
    have y0 := b0.frozen 0
    have y1 := b1.frozen 0
    have HV : Hid (entsV s = some ms) := by
      show _ = _
      unfold entsV
      rw [if_pos hs, ← HS.out, HI.out.took]
    gi_wp2_with fail
    obtain ⟨V, hV⟩ : ∃ V, (W.setCell ⟨w.heap.size, 0, none⟩ (.slice va ms.length vc)).setCell ⟨w.heap.size + 1, 0, none⟩ (.bool true) = V := ⟨_, rfl⟩
    rw [hV]
    have hdW : d < W.heap.size := (Array.getElem?_eq_some_iff.1 HK.out).1
    have hdV : V.heap[d]? = some (.deferred (some [])) := by
      rw [← hV, Below.heap_setCell _ _ _ _ (by show d ≠ w.heap.size + 1; omega), Below.heap_setCell _ _ _ _ (by show d ≠ w.heap.size; omega)]; exact HK.out
    have v0 : Blk V w.heap.size #[.slice va ms.length vc] 22 := by rw [← hV]; exact (b0.set 0 _).other _ _ (by show w.heap.size ≠ w.heap.size + 1; omega)
    have v1 : Blk V (w.heap.size + 1) #[.bool true] 4 := by rw [← hV]; exact (b1.other _ _ (by show w.heap.size + 1 ≠ w.heap.size; omega)).set 0 _
    have q0 := (blk_put v0 (d := d) (o := .deferred none) (by omega)).cell 0 _ rfl
    have q1 := (blk_put v1 (d := d) (o := .deferred none) (by omega)).cell 0 _ rfl
    have hBV : Below w.heap.size w V := by
      rw [← hV]
      exact (HI.out.below.setCell (p := ⟨w.heap.size, 0, none⟩) (Nat.le_refl _) _).setCell (p := ⟨w.heap.size + 1, 0, none⟩) (by show _ ≤ w.heap.size + 1; omega) _
    have hkV : Kept (fun k => w.heap.size + 4 ≤ k) W V := by
      refine ⟨by rw [← hV]; rfl, by rw [← hV]; rfl, by rw [← hV]; rfl, by rw [← hV]; simp [World.setCell], fun k hk hK => ?_⟩
      rw [← hV, Below.heap_setCell _ _ _ _ (by show k ≠ w.heap.size + 1; omega), Below.heap_setCell _ _ _ _ (by show k ≠ w.heap.size; omega)]
    have hA : EAcc V (w.heap.size + 4) (.slice va ms.length vc) ms xs bs := HI.out.acc.kept hkV (fun k hk => row_aside HI.out.acc.row k hk) (fun i hi _ => (HI.out.acc.at_ i hi).1)
    refine ⟨by simp, .inl ⟨_, _, rfl, run_takeDeferred hdV, ?_⟩⟩
    refine ⟨.tuple #[.slice va ms.length vc, .bool true], by simp [results, Tryd.results5, go_sem, q0, q1], ?_, ?_⟩
    · exact hBV.trans (below_put (by omega))
    · unfold ReadLy
      rw [HV.out]
      have hnd : ∀ b A (t : TypeId), Blk V b A t → b ≠ d := fun b A t h e => by subst e; rw [h] at hdV; cases hdV
      refine ⟨_, xs, bs, rfl, hA.kept (K := fun k => k ≠ d) (Kept.putObj _ _ _ (fun h => h rfl)) (fun k hk => ?_) (fun i hi h0 => ?_)⟩
      · rcases hA.row.2 with ⟨e1, _⟩ | ⟨g, cap, cur, e1, _, e3, _⟩
        · rw [e1] at hk; simp [Value.ownBlock] at hk
        · rw [e1] at hk; simp [Value.ownBlock] at hk; subst hk; exact hnd _ _ _ e3
      · obtain ⟨pa, pc, _, hO, _⟩ := hA.paths i hi
        intro e
        have hc := (hO.2.2.2.2 0 h0).1
        rw [e] at hc
        unfold World.cell? at hc
        rw [show (⟨d, 0, none⟩ : Addr).block = d from rfl, hdV] at hc
        cases hc
  case stop =>
    rintro d c pre C W hd hSp ⟨rfl, hX⟩ hK
    have HX := hide hX
    have HK := hide hK
    clear hX hK HI0 HT0
    gi_wp2
    have hz0 := HZ.out
    have q0 := (blk_put HX.out.r0 (d := d) (o := .deferred none) (by omega)).cell 0 _ rfl
    have q1 := (blk_put HX.out.r1 (d := d) (o := .deferred none) (by omega)).cell 0 _ rfl
    refine ⟨by simp, .inl ⟨_, _, rfl, run_takeDeferred HK.out, ?_⟩⟩
    refine ⟨.tuple #[.slice none 0 0, .bool false], by simp [results, Tryd.results5, go_sem, q0, q1], ?_, ?_⟩
    · exact HX.out.below.trans (below_put (by omega))
    · unfold ReadLy entsV
      obtain ⟨r, hr⟩ := hSp
      rw [if_pos hs, ← hr, takeE_pre _ _ _ HX.out.no]

end Go.Proofs.YtkidfflmbfnogaaDoor
