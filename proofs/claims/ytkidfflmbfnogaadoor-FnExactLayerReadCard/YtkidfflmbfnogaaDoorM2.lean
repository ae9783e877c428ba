/- For the specification's LayerRead: the first k lines' entries, in memory. -/
import Derived.Test.YtkidfflmbfnogaaDoorLL
import Derived.Test.YtkidfflmbfnogaaDoorEAcc
import Derived.Test.YtkidfflmbfnogaaDoorM1
namespace Go.Proofs.YtkidfflmbfnogaaDoor
open Go.RowKit

/-- The entries of these lines. -/
def allL : List ByteArray → Option (List Ent)
  | [] => some []
  | x :: r => match readL (cutB 32 x) with
    | none => none
    | some e => (allL r).map (fun q => e :: q)
theorem allL_snoc : ∀ (l : List ByteArray) (x : ByteArray), allL (l ++ [x]) = match allL l with
    | none => none
    | some ms => (readL (cutB 32 x)).map (fun e => ms ++ [e])
  | [], x => by
    rw [List.nil_append, allL, allL]
    cases readL (cutB 32 x) <;> rfl
  | y :: r, x => by
    rw [List.cons_append, allL, allL]
    cases readL (cutB 32 y) with
    | none => rfl
    | some e =>
      simp only
      rw [allL_snoc r x]
      cases allL r with
      | none => rfl
      | some ms => cases readL (cutB 32 x) <;> rfl
theorem allL_pre : ∀ (l r : List ByteArray), allL l = none → allL (l ++ r) = none
  | [], _, h => by simp [allL] at h
  | y :: l, r, h => by
    rw [allL] at h
    rw [List.cons_append, allL]
    cases hm : readL (cutB 32 y) with
    | none => rfl
    | some e =>
      rw [hm] at h
      simp only at h ⊢
      cases ha : allL l with
      | none => rw [allL_pre l r ha]; rfl
      | some q => rw [ha] at h; cases h
/-- What the specification reads. -/
def specE (s : ByteArray) : Option (List Ent) := if s.size ≤ 6000 ∧ (cutB 10 s).getLastD ⟨#[]⟩ = ⟨#[]⟩ then allL (cutB 10 s).dropLast else none

/-- The first k lines' entries, in memory. -/
structure LsI (s : ByteArray) (w : World) (k : Nat) (ov : Value) (wr : World) (ms : List Ent) (xs : List Value) : Prop where
  read : allL ((cutB 10 s).take k) = some ms
  len : ms.length = k
  row : wr.ownsRow w.heap.size 31 5 ov k xs
  paths : ∀ (i : Nat) (h : i < ms.length), ∃ pa pc, (xs[i * 5]? = some (.slice pa ms[i].path.length pc) ∧ xs[i * 5 + 1]? = some (.int .i64 ms[i].what) ∧ xs[i * 5 + 2]? = some (.bool ms[i].dir) ∧ xs[i * 5 + 3]? = some (.int .i64 ms[i].mode) ∧ xs[i * 5 + 4]? = some (.string ms[i].data)) ∧
    PthAt wr w.heap.size pa pc ms[i].path ∧ ∀ b, 0 < ms[i].path.length → pa = some ⟨b, 1, none⟩ → ov.ownBlock ≠ some b
theorem rowL_lt {w : World} {base : Nat} {e : TypeId} {sz : Nat} {v : Value} {n : Nat} {xs : List Value} (h : w.ownsRow base e sz v n xs) : ∀ k, v.ownBlock = some k → k < w.heap.size := fun k hk => by
  rcases h.2 with ⟨rfl, _⟩ | ⟨g, cap, cur, rfl, _, e3, _⟩
  · simp [Value.ownBlock] at hk
  · simp [Value.ownBlock] at hk; subst hk; exact (Array.getElem?_eq_some_iff.1 e3).1
theorem LsI.below {s : ByteArray} {w : World} {k : Nat} {ov : Value} {wr W : World} {ms : List Ent} {xs : List Value} (h : LsI s w k ov wr ms xs) (hb : Below wr.heap.size wr W) : LsI s w k ov W ms xs := by
  refine ⟨h.read, h.len, ownsRow_same h.row (fun g hg => hb.block g (rowL_lt h.row g hg)), fun i hi => ?_⟩
  obtain ⟨pa, pc, x1, hp, hn⟩ := h.paths i hi
  exact ⟨pa, pc, x1, hp.below hb, hn⟩

theorem pth_grown {wr w5 : World} {lo : Nat} {pa : Option Addr} {pc : Nat} {P : List ByteArray} {row : Option Nat} (h : PthAt wr lo pa pc P) (hg : wr.grownBy w5 row) (hn : ∀ b, 0 < P.length → pa = some ⟨b, 1, none⟩ → row ≠ some b) : PthAt w5 lo pa pc P := by
  refine ⟨h.1, fun h0 => ?_⟩
  obtain ⟨b, h1, h2, h3, h4⟩ := h.2 h0
  exact ⟨b, h1, h2, Nat.lt_of_lt_of_le h3 hg.size, fun j hj => by rw [World.cell?_of_block (w := wr) (hg.block b h3 (fun e => hn b h0 h1 e.symm))]; exact h4 j hj⟩

theorem LsI.add {s : ByteArray} {w : World} {k : Nat} {ov v' : Value} {wr w5 : World} {ms : List Ent} {xs : List Value} (h : LsI s w k ov wr ms xs) {m : Ent} {pa : Option Addr} {pc : Nat} (hk : k < (cutB 10 s).length) (hm : readL (cutB 32 (cutB 10 s)[k]) = some m)
    (hp : PthAt wr w.heap.size pa pc m.path) (hn : ∀ b, 0 < m.path.length → pa = some ⟨b, 1, none⟩ → ov.ownBlock ≠ some b)
    (hg : wr.grownBy w5 ov.ownBlock) (hr : w5.ownsRow w.heap.size 31 5 v' (k + 1) (xs ++ [.slice pa m.path.length pc, .int .i64 m.what, .bool m.dir, .int .i64 m.mode, .string m.data])) (hv : v'.ownBlock = ov.ownBlock ∨ v'.ownBlock = some wr.heap.size) :
    LsI s w (k + 1) v' w5 (ms ++ [m]) (xs ++ [.slice pa m.path.length pc, .int .i64 m.what, .bool m.dir, .int .i64 m.mode, .string m.data]) := by
  have hl := h.len
  have hxl : xs.length = k * 5 := h.row.1
  have go : ∀ (P : List ByteArray) (pa : Option Addr) (pc : Nat), PthAt wr w.heap.size pa pc P → (∀ b, 0 < P.length → pa = some ⟨b, 1, none⟩ → ov.ownBlock ≠ some b) →
      PthAt w5 w.heap.size pa pc P ∧ ∀ b, 0 < P.length → pa = some ⟨b, 1, none⟩ → v'.ownBlock ≠ some b := by
    intro P pa pc h1 h2
    refine ⟨pth_grown h1 hg h2, fun b h0 e1 e2 => ?_⟩
    rcases hv with e3 | e3
    · exact h2 b h0 e1 (e3.symm.trans e2)
    · obtain ⟨b', q1, _, q3, _⟩ := h1.2 h0
      rw [q1] at e1
      simp only [Option.some.injEq, Addr.mk.injEq, and_true] at e1
      rw [e3] at e2
      simp only [Option.some.injEq] at e2
      omega
  refine ⟨?_, by simp [hl], hr, fun i hi => ?_⟩
  · rw [List.take_succ_eq_append_getElem hk, allL_snoc, h.read, hm]; rfl
  · by_cases e : i = ms.length
    · subst e
      refine ⟨pa, pc, ⟨?_, ?_, ?_, ?_, ?_⟩, ?_⟩
      · rw [List.getElem?_append_right (by omega), hxl, show ms.length * 5 - k * 5 = 0 from by omega]; simp
      · rw [List.getElem?_append_right (by omega), hxl, show ms.length * 5 + 1 - k * 5 = 1 from by omega]; simp
      · rw [List.getElem?_append_right (by omega), hxl, show ms.length * 5 + 2 - k * 5 = 2 from by omega]; simp
      · rw [List.getElem?_append_right (by omega), hxl, show ms.length * 5 + 3 - k * 5 = 3 from by omega]; simp
      · rw [List.getElem?_append_right (by omega), hxl, show ms.length * 5 + 4 - k * 5 = 4 from by omega]; simp
      · simp only [List.getElem_append_right (Nat.le_refl _), Nat.sub_self, List.getElem_singleton]
        exact go _ _ _ hp hn
    · have hi2 : i < ms.length := by simp at hi; omega
      obtain ⟨qa, qc, ⟨x1, x2, x3, x4, x5⟩, h3, h4⟩ := h.paths i hi2
      rw [List.getElem_append_left hi2]
      refine ⟨qa, qc, ⟨?_, ?_, ?_, ?_, ?_⟩, go _ _ _ h3 h4⟩
      · rw [List.getElem?_append_left (by omega)]; exact x1
      · rw [List.getElem?_append_left (by omega)]; exact x2
      · rw [List.getElem?_append_left (by omega)]; exact x3
      · rw [List.getElem?_append_left (by omega)]; exact x4
      · rw [List.getElem?_append_left (by omega)]; exact x5

end Go.Proofs.YtkidfflmbfnogaaDoor

/- The specification's LayerRead: what it reads is what the program reads; walked. -/
namespace Go.Proofs.YtkidfflmbfnogaaDoor
open Go.RowKit

theorem takeE_lines : ∀ (l : List ByteArray) (r : List (List ByteArray × Bool)) (acc : List Ent), takeE (l.map (fun x => (cutB 32 x, true)) ++ r) acc = match allL l with
    | none => none
    | some ms => takeE r (acc ++ ms)
  | [], r, acc => by simp [allL]
  | x :: l, r, acc => by
    rw [List.map_cons, List.cons_append, takeE, allL, read_same]
    cases readL (cutB 32 x) with
    | none => rfl
    | some e =>
      simp only [if_true]
      rw [takeE_lines l r]
      cases allL l with
      | none => rfl
      | some ms => simp
theorem ents_same (s : ByteArray) : entsV s = specE s := by
  unfold entsV specE tellsB
  by_cases h : s.size ≤ 6000
  · rw [if_pos h, takeE_lines]
    by_cases hl : (cutB 10 s).getLastD ⟨#[]⟩ = ⟨#[]⟩
    · rw [if_pos hl, if_pos ⟨h, hl⟩]
      cases allL (cutB 10 s).dropLast <;> simp [takeE]
    · rw [if_neg hl, if_neg (fun h2 => hl h2.2)]
      cases allL (cutB 10 s).dropLast with
      | none => rfl
      | some ms =>
        simp only [takeE]
        cases readE (cutB 32 ((cutB 10 s).getLastD ⟨#[]⟩)) <;> simp
  · rw [if_neg h, if_neg (fun h2 => h h2.1)]

theorem readL_ok {ws : List ByteArray} {e : Ent} (h : readL ws = some e) : entB e = true ∧ (Lit.int .i64 e.what).wf = true := by
  match ws with
  | [] => simp [readL] at h
  | [_] => simp [readL] at h
  | [a, b] =>
    simp only [readL] at h
    split at h
    · obtain ⟨p, _, h2⟩ := Option.bind_eq_some_iff.1 h
      obtain ⟨h3, rfl⟩ := chk_some h2
      exact ⟨h3, rfl⟩
    · cases h
  | [a, b, c] =>
    simp only [readL] at h
    split at h
    · obtain ⟨p, _, h2⟩ := Option.bind_eq_some_iff.1 h
      obtain ⟨h3, rfl⟩ := chk_some h2
      exact ⟨h3, rfl⟩
    · split at h
      · obtain ⟨p, _, h2⟩ := Option.bind_eq_some_iff.1 h
        obtain ⟨h3, rfl⟩ := chk_some h2
        exact ⟨h3, rfl⟩
      · split at h
        · obtain ⟨p, _, h2⟩ := Option.bind_eq_some_iff.1 h
          obtain ⟨x, _, h4⟩ := Option.bind_eq_some_iff.1 h2
          obtain ⟨h3, rfl⟩ := chk_some h4
          exact ⟨h3, rfl⟩
        · cases h
  | [a, b, c, f] =>
    simp only [readL] at h
    split at h
    · obtain ⟨p, _, h2⟩ := Option.bind_eq_some_iff.1 h
      obtain ⟨x, _, h4⟩ := Option.bind_eq_some_iff.1 h2
      obtain ⟨h3, rfl⟩ := chk_some h4
      exact ⟨h3, rfl⟩
    · cases h
  | _ :: _ :: _ :: _ :: _ :: _ => simp [readL] at h
theorem allL_ok : ∀ (l : List ByteArray) (ms : List Ent), allL l = some ms → ∀ m ∈ ms, entB m = true ∧ (Lit.int .i64 m.what).wf = true
  | [], ms, h => by simp [allL] at h; subst h; simp
  | x :: l, ms, h => by
    rw [allL] at h
    cases hr : readL (cutB 32 x) with
    | none => rw [hr] at h; cases h
    | some e =>
      rw [hr] at h
      obtain ⟨q, hq, rfl⟩ := Option.map_eq_some_iff.1 h
      intro m hm
      rcases List.mem_cons.1 hm with rfl | hm
      · exact readL_ok hr
      · exact allL_ok l q hq m hm
theorem mode_wf8 {m : Int} (h0 : 0 ≤ m) (h7 : m ≤ 7) : (Lit.int .i64 m).wf = true := by
  have hh : ∀ d : Fin 8, (Lit.int .i64 ((d.val : Nat) : Int)).wf = true := by decide +kernel
  have := hh ⟨m.toNat, by omega⟩
  have e : ((m.toNat : Nat) : Int) = m := by omega
  rwa [e] at this
theorem LsI.ents {s : ByteArray} {w : World} {k : Nat} {ov : Value} {wr : World} {ms : List Ent} {xs : List Value} (h : LsI s w k ov wr ms xs) : EntsAt wr w.heap.size wr.heap.size ov ms := by
  have hl := h.len
  subst hl
  rcases h.row.2 with ⟨e1, e2⟩ | ⟨g, cap, cur, e1, e2, e3, e4, e5, e6, e7⟩
  · exact ⟨none, 0, by rw [e1, e2], by omega, fun h0 => by omega⟩
  · refine ⟨_, cap, e1, by omega, fun h0 => ⟨g, 0, rfl, e2, (Array.getElem?_eq_some_iff.1 e3).1, fun i hi => ?_⟩⟩
    obtain ⟨pa, pc, ⟨x1, x2, x3, x4, x5⟩, hp, _⟩ := h.paths i hi
    have hb : Blk wr g cur 31 := e3
    have cl : ∀ j u, xs[j]? = some u → wr.cell? ⟨g, j, none⟩ = some u := fun j u hu => by
      refine hb.cell j u ?_
      rw [← e7] at hu
      rw [← Array.getElem?_toList]
      by_cases hj : j < ms.length * 5
      · rwa [List.getElem?_take_of_lt hj] at hu
      · rw [List.getElem?_eq_none (by rw [List.length_take]; omega)] at hu; cases hu
    obtain ⟨hk, hw⟩ := allL_ok _ _ h.read ms[i] (List.getElem_mem hi)
    obtain ⟨_, _, m0, m7, hd⟩ := entB_parts ms[i] hk
    simp only [Nat.zero_add]
    exact ⟨pa, pc, cl _ _ x1, cl _ _ x2, cl _ _ x3, cl _ _ x4, cl _ _ x5, hp.strs, hw, mode_wf8 m0 m7, by unfold maxLen; omega, hp.1.1, hp.1.2.1⟩

/-- What the specification's LayerRead gives. -/
def ReadLs (s : ByteArray) (w : World) (e : Ending) (w' : World) : Prop := match specE s with
  | some ms => ∃ v, e = .returned (.tuple #[v, .bool true]) ∧ EntsAt w' w.heap.size w'.heap.size v ms
  | none => ∃ (a : Option Addr) (c : Nat), e = .returned (.tuple #[.slice a 0 c, .bool false])
/-- A line that is no entry ends the reading. -/
theorem specE_no {s : ByteArray} {k : Nat} (hk : k < (cutB 10 s).length) (hk1 : k + 1 < (cutB 10 s).length) (hm : readL (cutB 32 (cutB 10 s)[k]) = none) : specE s = none := by
  unfold specE
  split
  · have e : (cutB 10 s).dropLast = (cutB 10 s).take (k + 1) ++ (cutB 10 s).dropLast.drop (k + 1) := by
      have e2 := List.take_append_drop (k + 1) (cutB 10 s).dropLast
      rw [List.dropLast_eq_take, List.take_take, Nat.min_eq_left (by omega)] at e2
      rw [List.dropLast_eq_take]
      exact e2.symm
    rw [e]
    apply allL_pre
    rw [List.take_succ_eq_append_getElem hk, allL_snoc, hm]
    cases allL ((cutB 10 s).take k) <;> rfl
  · rfl

end Go.Proofs.YtkidfflmbfnogaaDoor

/- The specification's LayerRead, walked. -/
namespace Go.Proofs.YtkidfflmbfnogaaDoor
open Go.RowKit

theorem eown_none {w : World} {base b : Nat} {e : TypeId} (h : Blk w b #[] e) (hb : base ≤ b) : w.ownsRow base e 5 (.slice (some ⟨b, 0, none⟩) 0 0) 0 [] :=
  ⟨rfl, .inr ⟨b, 0, #[], rfl, hb, h, by omega, by unfold maxLen; omega, rfl, rfl⟩⟩
theorem getLastD_at {l : List ByteArray} {n : Nat} (h : l.length = n + 1) (hn : n < l.length) : l.getLastD ⟨#[]⟩ = l[n] := by
  rw [List.getLastD_eq_getLast?, List.getLast?_eq_getElem?, show l.length - 1 = n from by omega, List.getElem?_eq_getElem hn]
  rfl

set_option maxRecDepth 100000 in
set_option maxHeartbeats 4000000 in
theorem specLayerRead_any (s : ByteArray) (hs : s.size ≤ 1048576) (w : World) :
    Calls Tryd.prog 4 #[.string s] w fun e w' => Below w.heap.size w w' ∧ ReadLs s w e w' := by
  obtain ⟨iE, hiE', hzE, hsE, hbE⟩ := info_E
  have hiE := hide hiE'
  clear hiE'
  have HLs := hide (cutB_sizes 10 s)
  have hlp := cutB_pos 10 s
  have hll := cutB_len 10 s
  have HA : Hid (∀ o, Below w.heap.size w (w.alloc o)) := fun o => (Below.refl _ _).alloc (Nat.le_refl _) o
  go_enter Tryd.func4, Tryd.ntmps4
  go_wp2_with fail
  refine (cut10 s _ hs).mono ?_
  rintro e w1 ⟨la, lc, rfl, hO1, hB1⟩
  obtain ⟨gl, rfl, hg1, hg2, hcap, hcl⟩ := row_strs hO1 hlp
  have HG1 : Hid (w.heap.size < gl ∧ gl < w1.heap.size) := ⟨by simp at hg1; omega, hg2⟩
  have HB1 : Hid (Below w.heap.size w w1) := (HA.out _).trans (hB1.mono (by simp))
  have HI0 : Hid (LsI s w 0 (.slice (some ⟨w.heap.size, 0, none⟩) 0 0) w1 [] []) := ⟨rfl, rfl, ownsRow_same (eown_none (Blk.new w _ _) (Nat.le_refl _)) (fun g hg => by simp [Value.ownBlock] at hg; subst hg; exact hB1.block _ (by simp)), fun i h => by simp at h⟩
  obtain ⟨n, hn⟩ : ∃ n, (cutB 10 s).length = n + 1 := ⟨(cutB 10 s).length - 1, by omega⟩
  have HCL := hide hcl
  have HNn := hide hn
  obtain ⟨lt, hlt⟩ : ∃ lt, (cutB 10 s).getLastD ⟨#[]⟩ = lt := ⟨_, rfl⟩
  have cn : w1.cell? ⟨gl, n, none⟩ = some (.string lt) := by rw [← hlt, getLastD_at hn (by omega)]; exact hcl n (by omega)
  have HSp : Hid (specE s = if s.size ≤ 6000 ∧ lt = ⟨#[]⟩ then allL ((cutB 10 s).take n) else none) := by
    show _ = _
    unfold specE
    rw [hlt, List.dropLast_eq_take, show (cutB 10 s).length - 1 = n from by omega]
  have hnl : n ≤ 1048576 := by omega
  rw [hn]
  rw [hn] at hcap
  clear hO1 hB1 hcl hg1 hg2 hlp hll hn hlt
  by_cases h6 : s.size ≤ 6000
  case neg =>
    have HNo : Hid (∀ W a c, Below w.heap.size w W → Below w.heap.size w W ∧ ReadLs s w (.returned (.tuple #[.slice a 0 c, .bool false])) W) := fun W a c hb => ⟨hb, by unfold ReadLs; rw [HSp.out, if_neg (fun h => h6 h.1)]; exact ⟨a, c, rfl⟩⟩
    clear HSp
    go_wp2_with fail
    go_ret2
    exact HNo.out _ _ _ HB1.out
  by_cases hlast : lt = ⟨#[]⟩
  case neg =>
    have HNo : Hid (∀ W a c, Below w.heap.size w W → Below w.heap.size w W ∧ ReadLs s w (.returned (.tuple #[.slice a 0 c, .bool false])) W) := fun W a c hb => ⟨hb, by unfold ReadLs; rw [HSp.out, if_neg (fun h => hlast h.2)]; exact ⟨a, c, rfl⟩⟩
    have q1 : ¬ lt.toList = [] := fun e => hlast (toList_inj (e.trans (by rw [Lib.toList_data])))
    have q2 : lt.toList.isEmpty = false := by simpa using q1
    have q3 : (lt.toList == []) = false := beq_eq_false_iff_ne.2 q1
    have q4 : (lt.toList != []) = true := by simp [q1]
    clear HSp hlast
    go_wp2_with fail
    go_ret2
    exact HNo.out _ _ _ HB1.out
  have HSp2 : Hid (specE s = allL ((cutB 10 s).take n)) := by show _ = _; rw [HSp.out, if_pos ⟨h6, hlast⟩]
  subst hlast
  clear HSp
  go_wp2_with fail
  go_loopw [4, 7] (fun o i wr => ∃ (ov : Value) (k : Nat) (ms : List Ent) (xs : List Value), ov = o ∧ k ≤ n ∧ i = .int .i64 k ∧ Hid (LsI s w k ov wr ms xs) ∧ Hid (Below w.heap.size w wr) ∧ Hid (wr.heap[gl]? = w1.heap[gl]? ∧ ov.ownBlock ≠ some gl ∧ w1.heap.size ≤ wr.heap.size)) (fun _ i _ => n - (intOf i).toNat)
  case atStart => exact ⟨_, 0, [], [], rfl, Nat.zero_le _, rfl, HI0, HB1, rfl, by have := HG1.out; simp [Value.ownBlock]; omega, Nat.le_refl _⟩
  case round =>
    obtain ⟨ov, k, ms, xs, hov, hkn, rfl, HI, HB, HK⟩ := hrel
    subst hov
    clear HI0 HB1 cn
    by_cases hlt : k < n
    · have hk : k < (cutB 10 s).length := by have := HNn.out; omega
      have hk1 : k + 1 < (cutB 10 s).length := by have := HNn.out; omega
      obtain ⟨L, hL⟩ : ∃ L, (cutB 10 s)[k] = L := ⟨_, rfl⟩
      have ck : wr.cell? ⟨gl, k, none⟩ = some (.string L) := by rw [← hL]; exact (World.cell?_of_block (w := w1) HK.out.1).trans (HCL.out k hk)
      have hLk : L.size ≤ 1048576 := by rw [← hL]; exact Nat.le_trans (HLs.out k hk) hs
      have HNo : Hid (readL (cutB 32 L) = none → ∀ W a c, Below w.heap.size w W → Below w.heap.size w W ∧ ReadLs s w (.returned (.tuple #[.slice a 0 c, .bool false])) W) := fun h W a c hb => ⟨hb, by unfold ReadLs; rw [specE_no hk hk1 (by rw [hL]; exact h)]; exact ⟨a, c, rfl⟩⟩
      have HAdd : Hid (∀ m, readL (cutB 32 L) = some m → ∀ (W w5 : World) (v' : Value) (pa : Option Addr) (pc : Nat), Below wr.heap.size wr W → PthAt W wr.heap.size pa pc m.path → W.grownBy w5 ov.ownBlock →
          w5.ownsRow w.heap.size 31 5 v' (k + 1) (xs ++ [.slice pa m.path.length pc, .int .i64 m.what, .bool m.dir, .int .i64 m.mode, .string m.data]) → (v'.ownBlock = ov.ownBlock ∨ v'.ownBlock = some W.heap.size) →
          LsI s w (k + 1) v' w5 (ms ++ [m]) (xs ++ [.slice pa m.path.length pc, .int .i64 m.what, .bool m.dir, .int .i64 m.mode, .string m.data]) ∧ Below w.heap.size w w5 ∧ (w5.heap[gl]? = w1.heap[gl]? ∧ v'.ownBlock ≠ some gl ∧ w1.heap.size ≤ w5.heap.size)) := by
        intro m hm W w5 v' pa pc hW hp hg hr hv
        have hgl : gl < wr.heap.size := by have := HG1.out; have := HK.out.2.2; omega
        have hws := HB.out.size
        have hsW := hW.size
        refine ⟨(HI.out.below hW).add hk (by rw [hL]; exact hm) (hp.low hws) (fun b h0 e1 e2 => ?_) hg hr hv, ?_, ?_, ?_, ?_⟩
        · obtain ⟨b', q1, q2, _, _⟩ := hp.2 h0
          rw [q1] at e1
          simp only [Option.some.injEq, Addr.mk.injEq, and_true] at e1
          have := rowL_lt HI.out.row b e2
          omega
        · exact (HB.out.trans (hW.mono hws)).grown hg (by omega) (fun q hq => row_aside HI.out.row q hq)
        · rw [hg.block gl (by omega) (fun e => HK.out.2.1 e.symm), hW.block gl hgl]; exact HK.out.1
        · intro e
          rcases hv with e2 | e2
          · exact HK.out.2.1 (e2.symm.trans e)
          · rw [e2] at e; simp at e; omega
        · have := HK.out.2.2; have := hg.size; omega
      have HRW : Hid (∀ W, Below wr.heap.size wr W → W.ownsRow w.heap.size 31 5 ov k xs) := fun W h => ownsRow_same HI.out.row (fun g hg => h.block g (rowL_lt HI.out.row g hg))
      have hwz : w.heap.size ≤ wr.heap.size := HB.out.size
      have HLL := hide (l3Line_any L hLk wr)
      have hltI : (k : Int) < (n : Int) := by omega
      clear HI HK HCL HLs
      cases hm : readL (cutB 32 L) with
      | none =>
        have HNo := hide (HNo.out hm)
        have HLN : Hid (Calls Tryd.prog 10 #[.string L] wr fun e w' => ∃ (a : Option Addr) (n c : Nat) (wt : Int) (d : Bool) (m : Int) (x : ByteArray), e = .returned (.tuple #[.agg #[.slice a n c, .int .i64 wt, .bool d, .int .i64 m, .string x], .bool false]) ∧ Below wr.heap.size wr w') := HLL.out.mono fun e w' ⟨h1, h2⟩ => by
          rw [hm] at h2; obtain ⟨a, n, c, wt, d, m, x, h3⟩ := h2; exact ⟨a, n, c, wt, d, m, x, h3, h1⟩
        clear HLL HAdd hm
        go_wp2_with fail
        refine HLN.out.mono ?_
        rintro e w2 ⟨ea, en, ec, ewt, ed, em, ex, rfl, hB2⟩
        have HB2 : Hid (∀ o o', Below w.heap.size w ((w2.alloc o).alloc o')) := fun o o' => ((HB.out.trans (hB2.mono hwz)).alloc (Nat.le_trans hwz hB2.size) o).alloc (by have := hB2.size; simp; omega) o'
        clear hB2
        go_wp2_with fail
        go_ret2
        exact HNo.out _ _ _ (HB2.out _ _)
      | some m =>
        have HAdd := hide (HAdd.out m hm)
        have HLY : Hid (Calls Tryd.prog 10 #[.string L] wr fun e w' => ∃ (pa : Option Addr) (pc : Nat), e = .returned (.tuple #[.agg #[.slice pa m.path.length pc, .int .i64 m.what, .bool m.dir, .int .i64 m.mode, .string m.data], .bool true]) ∧ PthAt w' wr.heap.size pa pc m.path ∧ Below wr.heap.size wr w') := HLL.out.mono fun e w' ⟨h1, h2⟩ => by
          rw [hm] at h2; obtain ⟨pa, pc, h3, h4⟩ := h2; exact ⟨pa, pc, h3, h4, h1⟩
        clear HLL HNo hm
        go_wp2_with fail
        refine HLY.out.mono ?_
        rintro e w2 ⟨pa, pc, rfl, hp2, hB2⟩
        have hz2 : wr.heap.size ≤ w2.heap.size := hB2.size
        have HB2 : Hid (∀ o o', Below wr.heap.size wr ((w2.alloc o).alloc o')) := fun o o' => (hB2.alloc hB2.size o).alloc (by have := hB2.size; simp; omega) o'
        have HP2 : Hid (∀ o o', PthAt ((w2.alloc o).alloc o') wr.heap.size pa pc m.path) := fun o o' => hp2.below (((Below.refl _ _).alloc (Nat.le_refl _) o).alloc (by simp) o')
        clear hB2 hp2
        go_wp2_with (at_builtin; refine wpList_append_own_at _ rfl _ _ 22 rfl w.heap.size 31 iE (.agg zeroE') 5 64 Tryd.underlying22 hiE.out hzE hsE hbE rfl (by decide) ov k xs rfl (HRW.out _ (HB2.out _ _)) ⟨w2.heap.size + 1, 0, none⟩ 1 1 [.slice pa m.path.length pc, .int .i64 m.what, .bool m.dir, .int .i64 m.mode, .string m.data] rfl (by simp) (cell_five_new _ _ _ _ _ _ _ (by simp)) (by simp [Value.oneCell']) (by unfold maxLen; omega) (by omega) (by simp; omega) ?_; intro v' w5 hown hgrow hnil hat; have HO5 := hide hown; have HG5 := hide hgrow; have HA5 := hide hat; clear hown hgrow hat hnil)
        go_roundw
        case rel =>
          obtain ⟨hT, hBw, hK⟩ := HAdd.out _ w5 v' pa pc (HB2.out _ _) (HP2.out _ _) HG5.out HO5.out HA5.out
          exact ⟨v', k + 1, _, _, rfl, by omega, by go_num, hT, hBw, hK⟩
        case measure => simp [intOf]; omega
    · obtain rfl : k = n := by omega
      have HFin : Hid (ReadLs s w (.returned (.tuple #[ov, .bool true])) wr) := by
        show ReadLs s w _ wr
        unfold ReadLs
        rw [HSp2.out, HI.out.read]
        exact ⟨ov, rfl, HI.out.ents⟩
      go_wp2_with fail
      go_ret2
      exact ⟨HB.out, HFin.out⟩

end Go.Proofs.YtkidfflmbfnogaaDoor
