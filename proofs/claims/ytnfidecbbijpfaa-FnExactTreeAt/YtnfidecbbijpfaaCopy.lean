/- The specification's l1Copy: the same tree in memory of its own. -/
import Derived.Test.YtnfidecbbijpfaaProg
import Derived.Test.YtnfidecbbijpfaaTreeOf
namespace Go.Proofs.Ytnfidecbbijpfaa
open Go.RowKit

theorem Blk.atn {w : World} {n : Nat} {A : Array Value} {t : TypeId} (h : w.heap.size = n) : Blk (w.alloc (.cells A t)) n A t := by rw [← h]; exact Blk.new w A t
theorem Blk.drew {w : World} {n : Nat} {A : Array Value} {t : TypeId} (h : Blk w n A t) : Blk w.drew n A t := h
theorem own_empty {w : World} {base b : Nat} {e : TypeId} (h : Blk w b #[] e) (hb : base ≤ b) : w.ownsRow base e 1 (.slice (some ⟨b, 0, none⟩) 0 0) 0 [] :=
  ⟨rfl, .inr ⟨b, 0, #[], rfl, hb, h, Nat.le_refl _, by unfold maxLen; omega, rfl, rfl⟩⟩
theorem far5g {w1 : World} {b bx : Nat} (hb : b ≠ bx) (j : Nat) (v0 v1 v2 v3 v4 : Value) : (set5 w1 bx 0 v0 v1 v2 v3 v4).cell? ⟨b, j, none⟩ = w1.cell? ⟨b, j, none⟩ :=
  World.cell?_of_block (set5_other _ _ _ _ _ _ _ _ b hb)

theorem hg_of {x g H y : Nat} (h : (Value.slice (some ⟨x, 0, none⟩) 0 0).ownBlock = some g ∨ g = H) (hH : y ≤ H) : x = g ∨ y ≤ g := by
  rcases h with h | h
  · exact .inl (by simpa [Value.ownBlock] using h)
  · exact .inr (by omega)
theorem hg_ne {x g H y : Nat} (h : (Value.slice (some ⟨x, 0, none⟩) 0 0).ownBlock = some g ∨ g = H) (hx : x ≠ y) (hH : y < H) : g ≠ y := by
  rcases h with h | h
  · have : x = g := by simpa [Value.ownBlock] using h
    omega
  · omega

abbrev WO1 (w : World) (A : Array Value) : World := (((w.alloc (.cells A 30)).alloc (.cells #[.bool false, .int .i64 0, .string ⟨#[]⟩, .slice none 0 0, .slice none 0 0] 30)).alloc (.cells #[] 9)).drew
abbrev WO2 (w : World) (A : Array Value) : World := ((((w.alloc (.cells A 30)).alloc (.cells #[.bool false, .int .i64 0, .string ⟨#[]⟩, .slice none 0 0, .slice none 0 0] 30)).alloc (.cells #[] 9)).alloc (.cells #[.bool false, .int .i64 0, .string ⟨#[]⟩, .slice none 0 0, .slice none 0 0] 30)).drew
abbrev WO3 (w : World) (A : Array Value) : World := ((((w.alloc (.cells A 30)).alloc (.cells #[.bool false, .int .i64 0, .string ⟨#[]⟩, .slice none 0 0, .slice none 0 0] 30)).alloc (.cells #[.bool false, .int .i64 0, .string ⟨#[]⟩, .slice none 0 0, .slice none 0 0] 30)).alloc (.cells #[] 9)).drew

theorem blkO1 (w : World) (A : Array Value) : Below w.heap.size w (WO1 w A) ∧ (Blk (WO1 w A) w.heap.size A 30 ∧ Blk (WO1 w A) (w.heap.size + 1) zeroCells 30) ∧ Blk (WO1 w A) (w.heap.size + 1 + 1) #[] 9 ∧ (WO1 w A).heap.size = w.heap.size + 3 ∧ True :=
  ⟨by repeat' (first | exact Below.refl _ _ | refine Below.drew ?_ | refine Below.alloc ?_ (by simp <;> omega) _), ⟨((Blk.new w A _).alloc _).alloc _, (Blk.atn (A := zeroCells) (by simp)).alloc _⟩, Blk.atn (by simp), by simp [WO1, World.drew], trivial⟩
theorem blkO2 (w : World) (A : Array Value) : Below w.heap.size w (WO2 w A) ∧ (Blk (WO2 w A) w.heap.size A 30 ∧ Blk (WO2 w A) (w.heap.size + 1) zeroCells 30) ∧ Blk (WO2 w A) (w.heap.size + 1 + 1) #[] 9 ∧ (WO2 w A).heap.size = w.heap.size + 4 ∧ Blk (WO2 w A) (w.heap.size + 1 + 1 + 1) zeroCells 30 :=
  ⟨by repeat' (first | exact Below.refl _ _ | refine Below.drew ?_ | refine Below.alloc ?_ (by simp <;> omega) _), ⟨(((Blk.new w A _).alloc _).alloc _).alloc _, ((Blk.atn (A := zeroCells) (by simp)).alloc _).alloc _⟩, (Blk.atn (A := #[]) (by simp)).alloc _, by simp [WO2, World.drew], Blk.atn (A := zeroCells) (by simp)⟩
theorem blkO3 (w : World) (A : Array Value) : Below w.heap.size w (WO3 w A) ∧ (Blk (WO3 w A) w.heap.size A 30 ∧ Blk (WO3 w A) (w.heap.size + 1) zeroCells 30) ∧ Blk (WO3 w A) (w.heap.size + 1 + 1 + 1) #[] 9 ∧ (WO3 w A).heap.size = w.heap.size + 4 ∧ Blk (WO3 w A) (w.heap.size + 1 + 1) zeroCells 30 :=
  ⟨by repeat' (first | exact Below.refl _ _ | refine Below.drew ?_ | refine Below.alloc ?_ (by simp <;> omega) _), ⟨(((Blk.new w A _).alloc _).alloc _).alloc _, ((Blk.atn (A := zeroCells) (by simp)).alloc _).alloc _⟩, Blk.atn (A := #[]) (by simp), by simp [WO3, World.drew], (Blk.atn (A := zeroCells) (by simp)).alloc _⟩

/-- What holds of the world W at the append: be the empty slice's block. -/
structure FactsW (w : World) (A : Array Value) (be : Nat) (W : World) : Prop where
  below : Below w.heap.size w W
  box_ : Blk W w.heap.size A 30
  res : Blk W (w.heap.size + 1) zeroCells 30
  row : Blk W be #[] 9
  ge : w.heap.size + 2 ≤ be

theorem factsO1 (w : World) (A : Array Value) : FactsW w A (w.heap.size + 1 + 1) (WO1 w A) := by
  obtain ⟨h1, ⟨h2, h3⟩, h4, _⟩ := blkO1 w A
  exact ⟨h1, h2, h3, h4, Nat.le_refl _⟩
theorem factsO2 (w : World) (A : Array Value) : FactsW w A (w.heap.size + 1 + 1) (WO2 w A) := by
  obtain ⟨h1, ⟨h2, h3⟩, h4, _⟩ := blkO2 w A
  exact ⟨h1, h2, h3, h4, Nat.le_refl _⟩
theorem factsO3 (w : World) (A : Array Value) : FactsW w A (w.heap.size + 1 + 1 + 1) (WO3 w A) := by
  obtain ⟨h1, ⟨h2, h3⟩, h4, _⟩ := blkO3 w A
  exact ⟨h1, h2, h3, h4, by omega⟩

/-- The append of the names onto an empty slice, with what holds behind it. -/
structure After (w : World) (A : Array Value) (names : List ByteArray) (W : World) (be g cap : Nat) (w2 : World) : Prop where
  below : Below w.heap.size w w2
  box_ : Blk w2 w.heap.size A 30
  res : Blk w2 (w.heap.size + 1) zeroCells 30
  own : OwnStrs w2 (w.heap.size + 2) w2.heap.size g (.slice (some ⟨g, 0, none⟩) names.length cap) names
  other : ∀ x, x ≠ be → Blk W x zeroCells 30 → Blk w2 x zeroCells 30 ∧ g ≠ x

theorem after_of {w W w2 : World} {A : Array Value} {names : List ByteArray} {be g cap : Nat} (hl : names.length ≤ 1048576) (hns : ∀ (i : Nat) (h : i < names.length), names[i].size ≤ maxLen)
    (hown : w2.ownsRow (w.heap.size + 2) 9 1 (.slice (some ⟨g, 0, none⟩) (0 + names.length) cap) (0 + names.length) ([] ++ names.map .string))
    (hgrow : W.grownBy w2 (Value.slice (some ⟨be, 0, none⟩) 0 0).ownBlock) (hat : (Value.slice (some ⟨be, 0, none⟩) 0 0).ownBlock = some g ∨ g = W.heap.size) (F : FactsW w A be W) : After w A names W be g cap w2 := by
  have hsz := F.row.lt
  have hge := F.ge
  rw [Nat.zero_add] at hown
  rw [List.nil_append] at hown
  refine ⟨F.below.grown hgrow (by omega) (fun k h => by simp [Value.ownBlock] at h; omega), F.box_.grown hgrow (by simp [Value.ownBlock]; omega), F.res.grown hgrow (by simp [Value.ownBlock]; omega), ownStrs_of_row hown (by unfold maxLen; omega) hns g (.inl rfl), fun x hne hb => ⟨hb.grown hgrow (by simp [Value.ownBlock]; omega), ?_⟩⟩
  have := hb.lt
  rcases hat with h | h
  · have : be = g := by simpa [Value.ownBlock] using h
    omega
  · omega

theorem startO1 {w w2 W : World} {v0 v1 v2 : Value} {A : Array Value} {names : List ByteArray} {be g cap : Nat} (F : After w A names W be g cap w2) :
    StartT w (w.heap.size + 1) [v0, v1, v2] names w2.heap.size (.slice (some ⟨g, 0, none⟩) names.length cap) (w2.alloc (.cells #[v0, v1, v2, .slice (some ⟨g, 0, none⟩) names.length cap, .slice none 0 0] 30)) ∧ Blk (w2.alloc (.cells #[v0, v1, v2, .slice (some ⟨g, 0, none⟩) names.length cap, .slice none 0 0] 30)) w.heap.size A 30 := by
  have hlt := F.res.lt
  have ho' := F.own.same (w' := w2.alloc (.cells #[v0, v1, v2, .slice (some ⟨g, 0, none⟩) names.length cap, .slice none 0 0] 30)) fun k h1 h2 => Below.heap_alloc _ _ _ h2
  obtain ⟨b', hb', ho2⟩ := ownStrs_ne ho' (Nat.le_refl _)
  exact ⟨⟨F.below.alloc (by omega) _, by omega, F.res.alloc _, by omega, Blk.new _ _ _, b', hb', ownStrs_wide ho2 (by omega) (by simp)⟩, F.box_.alloc _⟩

theorem startO2 {w w2 W : World} {v0 v1 v2 : Value} {A : Array Value} {names : List ByteArray} {be g cap bx : Nat} (F : After w A names W be g cap w2) (hbx : w.heap.size + 2 ≤ bx) (hz : Blk w2 bx zeroCells 30 ∧ g ≠ bx) :
    StartT w (w.heap.size + 1) [v0, v1, v2] names bx (.slice (some ⟨g, 0, none⟩) names.length cap) (set5 w2 bx 0 v0 v1 v2 (.slice (some ⟨g, 0, none⟩) names.length cap) (.slice none 0 0)) ∧ Blk (set5 w2 bx 0 v0 v1 v2 (.slice (some ⟨g, 0, none⟩) names.length cap) (.slice none 0 0)) w.heap.size A 30 := by
  obtain ⟨hz, hg⟩ := hz
  have ho' : OwnStrs (set5 w2 bx 0 v0 v1 v2 (.slice (some ⟨g, 0, none⟩) names.length cap) (.slice none 0 0)) (w.heap.size + 2) w2.heap.size g (.slice (some ⟨g, 0, none⟩) names.length cap) names :=
    ownStrs_block F.own fun _ => set5_other _ _ _ _ _ _ _ _ g hg
  refine ⟨⟨set5_below F.below (by omega) _ _ _ _ _ _, by omega, (set5_other _ _ _ _ _ _ _ _ _ (by omega)).trans F.res, by omega, ((((hz.set 0 _).set 1 _).set 2 _).set 3 _).set 4 _, g, hg, ownStrs_wide ho' (by omega) (by rw [set5_size]; exact Nat.le_refl _)⟩, (set5_other _ _ _ _ _ _ _ _ _ (by omega)).trans F.box_⟩

theorem four {W : World} {b : Nat} {c0 c1 c2 c3 c4 : Value} {t : TypeId} (h : Blk W b #[c0, c1, c2, c3, c4] t) : W.cell? ⟨b, 0, none⟩ = some c0 ∧ W.cell? ⟨b, 1, none⟩ = some c1 ∧ W.cell? ⟨b, 2, none⟩ = some c2 ∧ W.cell? ⟨b, 3, none⟩ = some c3 :=
  ⟨h.cell 0 _ rfl, h.cell 1 _ rfl, h.cell 2 _ rfl, h.cell 3 _ rfl⟩
theorem step_append_zero {P : Program} {ops : Array Oper} {o : Oper} {a : Act} {w : World} {K : Act → World → Prop} {Q : Exit → Act → World → Prop} {E : Prop}
    (hg : o.guard = none) (s x : Operand) (t : TypeId) (hop : o.op = Op.call { callee := Callee.builtin Builtin.append, args := #[s, x], argTypes := #[t, t] })
    (e : TypeId) (i : TypeInfo) (size : Nat) (h1 : P.underlying t = some (.slice e)) (h2 : P.info? e = some i) (h4 : i.size = size)
    (b off n cap : Nat) (hs : a.eval s = .slice (some ⟨b, off, none⟩) n cap) (hn : n ≤ cap)
    (ad : Addr) (c : Nat) (hx : a.eval x = .slice (some ad) 0 c)
    (hK : K (a.put o.dst (.slice (some ⟨b, off, none⟩) n cap)) w) :
    if Region.wanted o (yielded ops a.tmps) = true then Oper.wp P o a w K Q else E :=
  step_append_room hg s x t hop e i size h1 h2 h4 b off n cap hs ad 0 c [] hx (by simp) (fun j u h => by simp at h) (fun u h => by simp at h) hn (fun j h => by simp at h) hK

theorem startN {w wx : World} {v0 v1 v2 : Value} {A : Array Value} {bx : Nat} {a1 : Option Addr} {c1 : Nat} (hb : Below w.heap.size w wx) (hr : Blk wx (w.heap.size + 1) zeroCells 30) (hge : w.heap.size + 1 + 1 ≤ bx)
    (hx : Blk wx bx #[v0, v1, v2, .slice a1 0 c1, .slice none 0 0] 30) (hA : Blk wx w.heap.size A 30) :
    StartT w (w.heap.size + 1) [v0, v1, v2] [] bx (.slice a1 0 c1) wx ∧ Blk wx w.heap.size A 30 :=
  ⟨⟨hb, by omega, hr, hge, hx, bx + 1, by omega, ownStrs_nil _ _ _ _ _ _⟩, hA⟩
abbrev XC (v0 v1 v2 : Value) (a1 : Option Addr) : Obj := .cells #[v0, v1, v2, .slice a1 0 0, .slice none 0 0] 30
theorem startN1 (w : World) (A : Array Value) (v0 v1 v2 : Value) (a1 : Option Addr) :
    StartT w (w.heap.size + 1) [v0, v1, v2] [] (w.heap.size + 1 + 1 + 1) (.slice a1 0 0) ((((w.alloc (.cells A 30)).alloc (.cells #[.bool false, .int .i64 0, .string ⟨#[]⟩, .slice none 0 0, .slice none 0 0] 30)).alloc (.cells #[] 9)).alloc (.cells #[v0, v1, v2, .slice a1 0 0, .slice none 0 0] 30)).drew ∧
      Blk ((((w.alloc (.cells A 30)).alloc (.cells #[.bool false, .int .i64 0, .string ⟨#[]⟩, .slice none 0 0, .slice none 0 0] 30)).alloc (.cells #[] 9)).alloc (.cells #[v0, v1, v2, .slice a1 0 0, .slice none 0 0] 30)).drew w.heap.size A 30 :=
  startN (by repeat' (first | exact Below.refl _ _ | refine Below.drew ?_ | refine Below.alloc ?_ (by simp <;> omega) _)) (((Blk.atn (A := zeroCells) (by simp)).alloc _).alloc _) (by omega) (Blk.atn (by simp)) ((((Blk.new w A _).alloc _).alloc _).alloc _)
theorem startN2 (w : World) (A : Array Value) (v0 v1 v2 : Value) (a1 : Option Addr) :
    StartT w (w.heap.size + 1) [v0, v1, v2] [] (w.heap.size + 1 + 1) (.slice a1 0 0) ((((w.alloc (.cells A 30)).alloc (.cells #[.bool false, .int .i64 0, .string ⟨#[]⟩, .slice none 0 0, .slice none 0 0] 30)).alloc (.cells #[v0, v1, v2, .slice a1 0 0, .slice none 0 0] 30)).alloc (.cells #[] 9)).drew ∧
      Blk ((((w.alloc (.cells A 30)).alloc (.cells #[.bool false, .int .i64 0, .string ⟨#[]⟩, .slice none 0 0, .slice none 0 0] 30)).alloc (.cells #[v0, v1, v2, .slice a1 0 0, .slice none 0 0] 30)).alloc (.cells #[] 9)).drew w.heap.size A 30 :=
  startN (by repeat' (first | exact Below.refl _ _ | refine Below.drew ?_ | refine Below.alloc ?_ (by simp <;> omega) _)) (((Blk.atn (A := zeroCells) (by simp)).alloc _).alloc _) (by omega) ((Blk.atn (A := #[v0, v1, v2, .slice a1 0 0, .slice none 0 0]) (by simp)).alloc _) ((((Blk.new w A _).alloc _).alloc _).alloc _)
theorem otherO2 {w w2 : World} {A : Array Value} {names : List ByteArray} {g cap : Nat} (h : After w A names (WO2 w A) (w.heap.size + 1 + 1) g cap w2) : Blk w2 (w.heap.size + 1 + 1 + 1) zeroCells 30 ∧ g ≠ w.heap.size + 1 + 1 + 1 := h.other _ (by omega) (blkO2 w A).2.2.2.2
theorem otherO3 {w w2 : World} {A : Array Value} {names : List ByteArray} {g cap : Nat} (h : After w A names (WO3 w A) (w.heap.size + 1 + 1 + 1) g cap w2) : Blk w2 (w.heap.size + 1 + 1) zeroCells 30 ∧ g ≠ w.heap.size + 1 + 1 := h.other _ (by omega) (blkO3 w A).2.2.2.2

def CopyC (n : Nat) : Prop := ∀ (t : T n) (nv kv : Value) (w : World) (lo hi : Nat), Rep w lo hi n t nv kv → hi ≤ w.heap.size → Sm n t →
  Calls Try.prog 29 #[aggT n t nv kv] w fun e w' => ∃ nv' kv', e = .returned (aggT n t nv' kv') ∧ Own w' n w.heap.size w'.heap.size t nv' kv' ∧ Below w.heap.size w w'

set_option maxHeartbeats 4000000 in
set_option maxRecDepth 100000 in
theorem copy_succ (n : Nat) (ih : CopyC n) : CopyC (n + 1) := by
  intro t nv kv w lo hi hrep hhi hsm
  obtain ⟨hd, hm, hN, hK⟩ := hrep
  obtain ⟨hs1, hs2, hs3⟩ := hsm
  obtain ⟨dir, mode, data, names, kids⟩ := t
  have hs1 : names.length ≤ 1048576 := hs1
  have hs2 : kids.length ≤ 1048576 := hs2
  have HDa : Hid (data.size ≤ maxLen ∧ (Lit.int .i64 mode).wf = true) := ⟨hd, hm⟩
  have HSm : Hid (∀ (i : Nat) (h : i < kids.length), Sm n kids[i]) := hs3
  obtain ⟨na, nc, rfl, hnl, hns, hnc⟩ := hN
  obtain ⟨ka, kc, rfl, hkl, hkc⟩ := hK
  have HKc := hide hkc
  have HNs := hide hns
  have HNc := hide hnc
  have HI := hide ih
  clear ih hs3 hns hnc hkc hd hm hkl hnl
  show Calls Try.prog 29 #[.agg #[.bool dir, .int .i64 mode, .string data, .slice na names.length nc, .slice ka kids.length kc]] w _
  obtain ⟨iS, hiS', hzS, hsS, hbS⟩ := info_S
  have hiS := hide hiS'
  clear hiS'
  go_enter Try.func29, Try.ntmps29
  go_wp2_with fail
  go_cut [3] from 5 to 15 (fun x3 wx => ∃ (bx : Nat) (a1 : Option Addr) (c1 : Nat), x3 = .pointer (some ⟨bx, 0, none⟩) ∧ Hid (StartT w (w.heap.size + 1) [.bool dir, .int .i64 mode, .string data] names bx (.slice a1 names.length c1) wx ∧ Blk wx w.heap.size #[.bool dir, .int .i64 mode, .string data, .slice na names.length nc, .slice ka kids.length kc] 30))
  case first =>
    by_cases h0 : 0 < names.length
    · obtain ⟨b, o, rfl, hb1, hb2, hcell⟩ := HNc.out h0
      have HC : Hid (∀ W, Below w.heap.size w W → ∀ j u, (names.map Value.string)[j]? = some u → W.cell? ((⟨b, o, none⟩ : Addr).add j) = some u) := fun W hW j u hu => by
        rw [List.getElem?_map] at hu
        by_cases hj : j < names.length
        · rw [List.getElem?_eq_getElem hj] at hu
          have e : Addr.add ⟨b, o, none⟩ j = ⟨b, o + j, none⟩ := by unfold Addr.add; split <;> simp_all
          rw [e, hW.cell (p := ⟨b, o + j, none⟩) (by show b < w.heap.size; omega)]
          rw [show w.cell? ⟨b, o + j, none⟩ = _ from hcell j hj]
          exact hu
        · rw [List.getElem?_eq_none (by omega)] at hu; cases hu
      clear hcell
      go_region_held3 (fun w' => w'.cell? ⟨w.heap.size, 0, none⟩ = some (.bool dir) ∧ w'.cell? ⟨w.heap.size, 1, none⟩ = some (.int .i64 mode) ∧ w'.cell? ⟨w.heap.size, 2, none⟩ = some (.string data) ∧ w'.cell? ⟨w.heap.size, 3, none⟩ = some (.slice (some ⟨b, o, none⟩) names.length nc))
        (first | with_reducible exact four HAft.out.box_ | with_reducible exact four (HAft.out.box_.alloc _) | exact four ((set5_other w2 _ _ _ _ _ _ _ _ (by omega)).trans HAft.out.box_) | go_keep)
        (first
          | (refine step_append_lies _ rfl (.tmp 11) (.tmp 13) 22 rfl (w.heap.size + 2) 9 iS (.string ⟨#[]⟩) 1 16 Try.underlying22 hiS.out hzS hsS hbS rfl (by decide) _ 0 [] rfl (own_empty (b := _) ?hbe ?hge) ⟨b, o, none⟩ names.length nc (names.map .string) rfl (by simp) (HC.out _ ?hbel) (by simp [Value.oneCell']) h0 (by unfold maxLen; omega) (by omega) ?hbase _ rfl ?_
             case hbe => first | with_reducible exact (factsO1 w _).row | with_reducible exact (factsO2 w _).row | with_reducible exact (factsO3 w _).row
             case hge => omega
             case hbel => first | with_reducible exact (blkO1 w _).1 | with_reducible exact (blkO2 w _).1 | with_reducible exact (blkO3 w _).1
             case hbase => (simp <;> omega)
             intro g cap w2 hown hgrow hat hgl
             have hAft := after_of (A := #[.bool dir, .int .i64 mode, .string data, .slice (some ⟨b, o, none⟩) names.length nc, .slice ka kids.length kc]) hs1 HNs.out hown hgrow hat (by first | with_reducible exact factsO1 w _ | with_reducible exact factsO2 w _ | with_reducible exact factsO3 w _)
             clear hown hgrow hat
             have HAft := hide hAft
             have y0 := hAft.box_.cell 0 _ rfl
             have y1 := hAft.box_.cell 1 _ rfl
             have y2 := hAft.box_.cell 2 _ rfl
             have y3 := hAft.box_.cell 3 _ rfl
             first
               | (with_reducible have hZ := otherO2 hAft
                  have HZ := hide hZ
                  have z0 := hZ.1.cell 0 _ rfl
                  have z1 := hZ.1.cell 1 _ rfl
                  have z2 := hZ.1.cell 2 _ rfl
                  have z3 := hZ.1.cell 3 _ rfl
                  have z4 := hZ.1.cell 4 _ rfl
                  have u0 := hZ.1.frozen 0
                  have u1 := hZ.1.frozen 1
                  have u2 := hZ.1.frozen 2
                  have u3 := hZ.1.frozen 3
                  have u4 := hZ.1.frozen 4
                  clear hZ)
               | (with_reducible have hZ := otherO3 hAft
                  have HZ := hide hZ
                  have z0 := hZ.1.cell 0 _ rfl
                  have z1 := hZ.1.cell 1 _ rfl
                  have z2 := hZ.1.cell 2 _ rfl
                  have z3 := hZ.1.cell 3 _ rfl
                  have z4 := hZ.1.cell 4 _ rfl
                  have u0 := hZ.1.frozen 0
                  have u1 := hZ.1.frozen 1
                  have u2 := hZ.1.frozen 2
                  have u3 := hZ.1.frozen 3
                  have u4 := hZ.1.frozen 4
                  clear hZ)
               | skip
             clear hAft))
      all_goals
        go_wp2_with fail
        go_meet
        first
          | with_reducible exact ⟨_, _, _, rfl, hide (startO1 HAft.out)⟩
          | with_reducible exact ⟨_, _, _, rfl, hide (startO2 HAft.out (by omega) HZ.out)⟩
          | exact ⟨_, _, _, rfl, startO2 HAft.out (by omega) HZ.out⟩
          | exact ⟨_, _, _, rfl, startO1 HAft.out⟩
    · have hn0 : names = [] := List.eq_nil_of_length_eq_zero (by omega)
      subst hn0
      clear HNc HNs
      simp only [List.length_nil]
      cases na with
      | none =>
        go_region_held3 (fun w' => w'.cell? ⟨w.heap.size, 0, none⟩ = some (.bool dir) ∧ w'.cell? ⟨w.heap.size, 1, none⟩ = some (.int .i64 mode) ∧ w'.cell? ⟨w.heap.size, 2, none⟩ = some (.string data) ∧ w'.cell? ⟨w.heap.size, 3, none⟩ = some (.slice none 0 nc))
          (go_keep) (fail)
        all_goals
          go_wp2_with fail
          go_meet
          simp only [List.length_nil]
          first
            | with_reducible exact ⟨_, _, _, rfl, hide (startN1 w _ _ _ _ _)⟩
            | with_reducible exact ⟨_, _, _, rfl, hide (startN2 w _ _ _ _ _)⟩
      | some ad =>
        go_region_held3 (fun w' => w'.cell? ⟨w.heap.size, 0, none⟩ = some (.bool dir) ∧ w'.cell? ⟨w.heap.size, 1, none⟩ = some (.int .i64 mode) ∧ w'.cell? ⟨w.heap.size, 2, none⟩ = some (.string data) ∧ w'.cell? ⟨w.heap.size, 3, none⟩ = some (.slice (some ad) 0 nc))
          (go_keep)
          (first | (refine step_append_zero rfl (.tmp 11) (.tmp 13) 22 rfl 9 iS 1 Try.underlying22 hiS.out hsS _ _ 0 0 rfl (Nat.le_refl _) ad nc rfl ?_))
        all_goals
          go_wp2_with fail
          go_meet
          simp only [List.length_nil]
          first
            | with_reducible exact ⟨_, _, _, rfl, hide (startN1 w _ _ _ _ _)⟩
            | with_reducible exact ⟨_, _, _, rfl, hide (startN2 w _ _ _ _ _)⟩
  case rest =>
    obtain ⟨bx, a1, c1, rfl, HS⟩ := hcut
    have HBb : Hid (Blk wc w.heap.size #[.bool dir, .int .i64 mode, .string data, .slice na names.length nc, .slice ka kids.length kc] 30) := HS.out.2
    have x4 := HBb.out.cell 4 _ rfl
    have HNL : Hid (w.heap.size < wc.heap.size) := HBb.out.lt
    clear HNc
    go_wp2_with fail
    go_loopw [4] (fun i wr => ∃ (k : Nat) (kvv : Value) (xs : List Value) (s e : Nat → Nat), k ≤ kids.length ∧ i = .int .i64 k ∧ Hid (InvT n [.bool dir, .int .i64 mode, .string data] (.slice a1 names.length c1) kids bx wc k wr kvv xs s e)) (fun i _ => kids.length - (intOf i).toNat)
    case atStart => exact ⟨0, .slice none 0 0, [], fun _ => 0, fun _ => 0, Nat.zero_le _, rfl, HS.out.1.tree.lt, Aside.refl _ _, HS.out.1.tree, World.ownsRow_nil _ _ _ _, fun i _ h => by omega⟩
    case round =>
      obtain ⟨k, kvv, xs, s, e, hk, rfl, I⟩ := hrel
      have HBr : Hid (Blk wr w.heap.size #[.bool dir, .int .i64 mode, .string data, .slice na names.length nc, .slice ka kids.length kc] 30) := HBb.out.aside I.out.aside (by have := HS.out.1.ge; omega)
      have x4' := HBr.out.cell 4 _ rfl
      by_cases hlt : k < kids.length
      · obtain ⟨kb, ko, rfl, hkb1, hkb2, hcell⟩ := HKc.out (by omega)
        obtain ⟨knv, kkv, hc0, hc1, hc2, hc3, hc4, hrp⟩ := hcell k hlt
        have hltI : (k : Int) < (kids.length : Int) := by omega
        have HBl : Hid (Below w.heap.size w wr) := HS.out.1.below.trans (I.out.aside.toBelow (by have := HS.out.1.ge; omega) HS.out.1.below.size)
        rw [← HBl.out.cell (p := ⟨kb, _, none⟩) (by show kb < w.heap.size; omega)] at hc0 hc1 hc2 hc3 hc4
        have HP : Hid (Rep wr lo hi n kids[k] knv kkv) := Rep.keep HBl.out hhi n _ _ _ hrp
        have hz : hi ≤ wr.heap.size := Nat.le_trans hhi HBl.out.size
        obtain ⟨va, vm, vc, ua, um, uc, rfl, rfl⟩ := HP.out.slices
        have HC : Hid (∀ W, Below wr.heap.size wr W → Calls Try.prog 29 #[.agg #[.bool (headT n kids[k]).1, .int .i64 (headT n kids[k]).2.1, .string (headT n kids[k]).2.2, .slice va vm vc, .slice ua um uc]] W fun e w' => ∃ nv kv, e = .returned (.agg #[.bool (headT n kids[k]).1, .int .i64 (headT n kids[k]).2.1, .string (headT n kids[k]).2.2, nv, kv]) ∧ Own w' n wr.heap.size w'.heap.size kids[k] nv kv ∧ Below wr.heap.size wr w' ∧ W.heap.size ≤ w'.heap.size) := fun W hW =>
          (HI.out kids[k] _ _ W lo hi (Rep.keep hW hz n _ _ _ HP.out) (Nat.le_trans hz hW.size) (HSm.out k hlt)).mono fun e w' ⟨nv, kv, h1, h2, h3⟩ => ⟨nv, kv, h1, own_wide _ _ _ _ _ _ _ (nv, kv) hW.size (Nat.le_refl _) h2, hW.trans (h3.mono hW.size), h3.size⟩
        have y4 : wr.cell? ⟨bx, 4, none⟩ = some kvv := I.out.dir_.cell 4 _ rfl
        have y4f := I.out.dir_.frozen 4
        have hbxl := I.out.dir_.lt
        obtain ⟨iT, hiT', hzT, hsT, hbT⟩ := info_T
        have hiT := hide hiT'
        clear hiT' hcell hrp
        go_wp2_with fail
        go_region_law (first
          | (refine step_append_lies _ rfl (.tmp 24) (.tmp 31) 28 rfl wc.heap.size 30 iT (.agg zeroCells) 5 80 Try.underlying28 hiT.out hzT hsT hbT rfl (by decide) kvv k xs (by simp [Act.eval]) (HOwn.out _) ⟨w1.heap.size, 0, none⟩ 1 1 (cells5of n kids[k] (.slice xa xm xc) (.slice ya ym yc)) (by simp [Act.eval]) rfl (World.news_of_block (heap_alloc_new w1 _)) (by simp [cells5of, Value.oneCell']) (by omega) (by unfold maxLen; omega) (by omega) (by simp; omega) _ rfl ?_
             intro g cap w2 hown hgrow hat hgl
             have HOWN := hide hown
             have HGROW := hide hgrow
             have HAT := hide hat
             have HD2 : Hid (Blk w2 bx #[.bool dir, .int .i64 mode, .string data, .slice a1 names.length c1, kvv] 30) := (HD1.out.alloc _).grown hgrow (fun h => by have := I.out.row.lt _ h.symm; have := I.out.lt; omega)
             have z4 := HD2.out.cell 4 _ rfl
             have z4f := HD2.out.frozen 4
             clear hown hgrow hat)
          | (rw [if_pos (by simp [Region.wanted])]
             go_simp
             go_at_call 29
             refine (HC.out _ (by first | exact (Below.refl _ _).drew | exact Below.refl _ _)).mono ?_
             rintro e1 w1 ⟨nv1, kv1, rfl, hO1, hB1, _⟩
             obtain ⟨xa, xm, xc, ya, ym, yc, rfl, rfl⟩ := (Own.rep _ _ _ _ _ _ hO1).slices
             have HO1 := hide hO1
             have HB1 := hide hB1
             have HOwn : Hid (∀ o, (w1.alloc o).ownsRow wc.heap.size 30 5 kvv k xs) := fun o => (ownsRow_same I.out.row fun g hg => hB1.block g (I.out.row.lt g hg).2).alloc o
             have HD1 : Hid (Blk w1 bx #[.bool dir, .int .i64 mode, .string data, .slice a1 names.length c1, kvv] 30) := I.out.dir_.below hB1 hbxl
             have y4' := HD1.out.cell 4 _ rfl
             have y4o : ∀ o, (w1.alloc o).cell? ⟨bx, 4, none⟩ = some kvv := fun o => (HD1.out.alloc o).cell 4 _ rfl
             have hw1 : wr.heap.size ≤ w1.heap.size := hB1.size
             have hws := I.out.aside.size
             clear hO1 hB1))
        all_goals
          go_wp2_with fail
          go_roundw
          case rel => exact ⟨k + 1, _, _, _, _, by omega, by go_num, I.out.step rfl hlt HB1.out HO1.out _ HOWN.out HGROW.out (at_of HAT.out)⟩
          case measure => simp [intOf]; omega
      · have e1 : k = kids.length := by omega
        have HE1 := hide e1
        clear e1
        have HR : Hid (Blk wr (w.heap.size + 1) zeroCells 30) := HS.out.1.res.aside I.out.aside (by have := HS.out.1.ge; omega)
        have y0 := I.out.dir_.cell 0 _ rfl
        have y1 := I.out.dir_.cell 1 _ rfl
        have y2 := I.out.dir_.cell 2 _ rfl
        have y3 := I.out.dir_.cell 3 _ rfl
        have y4 := I.out.dir_.cell 4 _ rfl
        have z0 := HR.out.cell 0 _ rfl
        have z1 := HR.out.cell 1 _ rfl
        have z2 := HR.out.cell 2 _ rfl
        have z3 := HR.out.cell 3 _ rfl
        have z4 := HR.out.cell 4 _ rfl
        have u0 := HR.out.frozen 0
        have u1 := HR.out.frozen 1
        have u2 := HR.out.frozen 2
        have u3 := HR.out.frozen 3
        have u4 := HR.out.frozen 4
        obtain ⟨ka', kc', rfl⟩ := ownsRow_form I.out.row
        go_wp2_with fail
        refine bodyPost_ret (v := .agg #[.bool dir, .int .i64 mode, .string data, .slice a1 names.length c1, .slice ka' k kc']) (by simp [results, Try.results29, go_sem, z0, z1, z2, z3, z4]) rfl ⟨_, _, rfl, treeT_done HS.out.1 I.out HE1.out (by unfold maxLen; omega) HDa.out, ?_⟩
        exact set5_below (HS.out.1.below.trans (I.out.aside.toBelow (by have := HS.out.1.ge; omega) HS.out.1.below.size)) (by omega) _ _ _ _ _ _

theorem copy_any : ∀ n, CopyC n
  | 0 => fun t => Empty.elim (show Empty from t)
  | n + 1 => copy_succ n (copy_any n)

end Go.Proofs.Ytnfidecbbijpfaa
