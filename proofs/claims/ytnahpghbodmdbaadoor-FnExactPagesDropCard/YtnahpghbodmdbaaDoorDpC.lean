/- spec.l32Copy: pages in memory of their own. -/
import Derived.Test.YtnahpghbodmdbaaDoorPgSh
import Derived.Test.YtnahpghbodmdbaaDoorPgC
import Derived.Test.YtnahpghbodmdbaaDoorPgh
import Derived.Deep.RegionLaw
import Derived.Deep.AppendLies
namespace Go.Proofs.YtnahpghbodmdbaaDoor
open Go.RowKit

/-- 'append([]T{}, list...)' of records of three cells, at a step of a region that draws. -/
theorem step_copyR {α : Type} {f : α → V3} (E ES : TypeId) (iR : TypeInfo) (zR : Value) (bR : Nat) (hu : Tryd.prog.underlying ES = some (.slice E)) (hiR : Tryd.prog.info? E = some iR) (hzR : iR.zero = some zR) (hsR : iR.size = 3) (hbR : iR.bytes = bR) (hzs : zR.cells.size = 3)
    {ops : Array Oper} {o : Oper} {a : Act} {K : Act → World → Prop} {Q : Exit → Act → World → Prop} {X : Prop} {w : World} (hgd : o.guard = none) (d x : Operand)
    (ho : o.op = .call { callee := .builtin .append, args := #[d, x], argTypes := #[ES, ES] })
    (L : List α) (na : Option Addr) (nc lo hi base b : Nat) (hd : a.eval d = .slice (some ⟨b, 0, none⟩) 0 0) (hx : a.eval x = .slice na L.length nc) (hb : Blk w b #[] E) (hbb : base ≤ b) (hn : RcsAt f w lo hi (.slice na L.length nc) L) (hone : ∀ u ∈ flat3 f L, u.oneCell' = true) (hN : L.length * bR ≤ 140737488355328) (hN2 : L.length ≤ 1048576) (hbase : base ≤ w.heap.size)
    (h : ∀ a' c' w' g, w'.ownsRow base E 3 (.slice a' L.length c') L.length (flat3 f L) → w.grownBy w' (some b) → (Value.slice a' L.length c').ownBlock = some g → (g = b ∨ g = w.heap.size) → K (a.put o.dst (.slice a' L.length c')) w') :
    if Region.wanted o (yielded ops a.tmps) = true then Oper.wp Tryd.prog o a w K Q else X := by
  have hw : Region.wanted o (yielded ops a.tmps) = true := by simp [Region.wanted, hgd]
  rw [if_pos hw]
  obtain ⟨a0, c0, e0, _, hc⟩ := hn
  simp only [Value.slice.injEq] at e0
  obtain ⟨rfl, _, rfl⟩ := e0
  have hown0 : w.ownsRow base E 3 (.slice (some ⟨b, 0, none⟩) 0 0) 0 [] := own_none_s hb hbb
  cases na with
  | none =>
    have hN0 : L = [] := by
      rcases Nat.eq_zero_or_pos L.length with h0 | h0
      · exact List.eq_nil_of_length_eq_zero h0
      · obtain ⟨b, o, h1, _⟩ := hc h0; cases h1
    subst hN0
    have hr : (Builtin.append_ #[ES, ES] o.type #[.slice (some ⟨b, 0, none⟩) 0 0, .slice none 0 nc]).run Tryd.prog w = .ok (.slice (some ⟨b, 0, none⟩) 0 0) w := by
      simp [Builtin.append_, run_underlying hu, sizeOf, typeInfo, hiR, Builtin.lenOf, Builtin.firstCells, storeCells]
    unfold Oper.wp execOp
    simp only [ho, resolve, invoke, builtin, Sem.run_bind, Sem.run_pure, Result.andThen_ok, List.map_toArray, List.map_cons, List.map_nil, hd, hx]
    rw [show ([] : List α).length = 0 from rfl, hr]
    exact h _ _ _ b hown0 ⟨rfl, rfl, rfl, Nat.le_refl _, fun _ _ _ => rfl⟩ rfl (.inl rfl)
  | some ad =>
    obtain ⟨mv, w', hr, h2, h3, _, h5⟩ := run_append_own_at (P := Tryd.prog) w base ES o.type E iR zR 3 bR hu hiR hzR hsR hbR hzs (by decide) _ 0 [] hown0 ad L.length nc (flat3 f L) (flat3_length f L)
      (fun j u hu => by
        rcases Nat.eq_zero_or_pos L.length with h0 | h0
        · rw [List.getElem?_eq_none (by rw [flat3_length]; omega)] at hu; cases hu
        · obtain ⟨b, o2, h1, _, _, hcell⟩ := hc h0
          cases h1
          exact rcs_news hcell j u hu) hone (by unfold maxLen; omega) (by rw [Nat.zero_add]; exact hN) hbase
    unfold Oper.wp execOp
    simp only [ho, resolve, invoke, builtin, Sem.run_bind, Sem.run_pure, Result.andThen_ok, List.map_toArray, List.map_cons, List.map_nil, hd, hx]
    rw [hr]
    rw [Nat.zero_add, List.nil_append] at h2
    obtain ⟨va, vc, rfl⟩ := ownsRow_form h2
    rcases h5 with e | e
    · exact h va vc w' b h2 h3 e (.inl rfl)
    · exact h va vc w' _ h2 h3 e (.inr rfl)

theorem rcs_of_row {α : Type} {f : α → V3} {w : World} {base g : Nat} {t : TypeId} {v : Value} {l : List α} (h : w.ownsRow base t 3 v l.length (flat3 f l)) (hg : v.ownBlock = some g) : OwnRcs f w g (g + 1) g v l ∧ g < w.heap.size ∧ base ≤ g := by
  have hl := h.lt g hg
  obtain ⟨b, ho, hb⟩ := ownRcs_row h
  by_cases h0 : 0 < l.length
  · have := hb h0
    rw [hg] at this
    cases this
    exact ⟨ho.one, hl.2, hl.1⟩
  · have hN : l = [] := List.eq_nil_of_length_eq_zero (by omega)
    subst hN
    obtain ⟨⟨a, cap, rfl, _⟩, _⟩ := ho
    exact ⟨OwnRcs.nil _ _ _ _ _ _ _, hl.2, hl.1⟩
theorem Blk.drewI {w : World} {b : Nat} {A : Array Value} {t : TypeId} (h : Blk w b A t) : Blk w.drew b A t := h
theorem RcsAt.drewI {α : Type} {f : α → V3} {w : World} {lo hi : Nat} {v : Value} {l : List α} (h : RcsAt f w lo hi v l) : RcsAt f w.drew lo hi v l := h
theorem grown_below {w w' : World} {b n : Nat} (h : w.grownBy w' (some b)) (hb : n ≤ b) (hn : n ≤ w.heap.size) : Below n w w' :=
  ⟨h.os, h.tape, h.output, h.size, fun k hk => h.block k (by omega) (fun e => by simp only [Option.some.injEq] at e; omega)⟩

/-- What is so of a list that was copied: it lies in a block of its own, and nothing below S has turned. -/
theorem copied {α : Type} {f : α → V3} {w W X wA : World} {g : Nat} {t : TypeId} {v : Value} {l : List α} (hw : Below w.heap.size w W) (hown : wA.ownsRow W.heap.size t 3 v l.length (flat3 f l)) (hat : v.ownBlock = some g) (hb : Below W.heap.size X wA) (hX : Below W.heap.size W X) (_h : True) :
    OwnRcs f wA g (g + 1) g v l ∧ Below w.heap.size w wA ∧ W.heap.size ≤ g ∧ Below W.heap.size W wA ∧ g < wA.heap.size := by
  obtain ⟨h1, h2, h3⟩ := rcs_of_row hown hat
  have hb2 := hX.trans hb
  exact ⟨h1, hw.trans (hb2.mono hw.size), h3, hb2, h2⟩
theorem copied_old {α : Type} {f : α → V3} {wA wB : World} {g g2 : Nat} {v : Value} {l : List α} (h : OwnRcs f wA g (g + 1) g v l) (hk : wB.heap[g]? = wA.heap[g]?) (hne : g ≠ g2) (hlt : g < wB.heap.size) : OwnRcs f wB g (g + 1) g v l ∧ g ≠ g2 ∧ g < wB.heap.size :=
  ⟨h.same fun _ => hk, hne, hlt⟩

theorem row_cap {w : World} {base : Nat} {e : TypeId} {size : Nat} {a : Option Addr} {n c : Nat} {xs : List Value} (h : w.ownsRow base e size (.slice a n c) n xs) : n ≤ c := by
  rcases h.2 with ⟨h0, _⟩ | ⟨g, cap, cur, he, _, _, hcap, _⟩
  · cases h0; exact Nat.le_refl _
  · simp only [Value.slice.injEq] at he
    obtain ⟨_, _, rfl⟩ := he
    exact hcap
theorem copied_end {P : List Pg} {N : List Pn} {w W wl : World} {g1 g2 : Nat} {a1 a2 : Option Addr} {k1 k2 : Nat} {x y : Value} (hW : Below w.heap.size w W) (hz : W.heap.size = w.heap.size + 2) (hl : Below W.heap.size W wl) (h1 : OwnRcs fPg wl g1 (g1 + 1) g1 (.slice a1 P.length k1) P) (h2 : OwnRcs fPn wl g2 (g2 + 1) g2 (.slice a2 N.length k2) N) (hne : g1 ≠ g2) (l1 : g1 < wl.heap.size) (l2 : g2 < wl.heap.size) (b1 : W.heap.size ≤ g1) (b2 : W.heap.size ≤ g2) (hcap : N.length ≤ k2) :
    ∃ c1 c2 e1 m1 e2 m2, Ending.returned (.agg #[.slice a1 P.length k1, .slice a2 N.length k2]) = .returned (.agg #[.slice e1 P.length m1, .slice e2 N.length m2]) ∧ N.length ≤ m2 ∧ OwnPgs ((wl.setCell ⟨w.heap.size + 1, 0, none⟩ x).setCell ⟨w.heap.size + 1, 1, none⟩ y) c1 c2 (.slice e1 P.length m1) (.slice e2 N.length m2) P N ∧ w.heap.size ≤ c1 ∧ w.heap.size ≤ c2 ∧ Below w.heap.size w ((wl.setCell ⟨w.heap.size + 1, 0, none⟩ x).setCell ⟨w.heap.size + 1, 1, none⟩ y) := by
  have hk : ∀ j, W.heap.size ≤ j → ((wl.setCell ⟨w.heap.size + 1, 0, none⟩ x).setCell ⟨w.heap.size + 1, 1, none⟩ y).heap[j]? = wl.heap[j]? := fun j hj => by
    rw [Below.heap_setCell _ _ _ _ (show j ≠ w.heap.size + 1 by omega), Below.heap_setCell _ _ _ _ (show j ≠ w.heap.size + 1 by omega)]
  have hs : ((wl.setCell ⟨w.heap.size + 1, 0, none⟩ x).setCell ⟨w.heap.size + 1, 1, none⟩ y).heap.size = wl.heap.size := by simp [World.setCell]
  have hb : Below w.heap.size w wl := hW.trans (hl.mono hW.size)
  exact ⟨g1, g2, a1, k1, a2, k2, rfl, hcap, ⟨h1.same (fun _ => hk g1 b1), h2.same (fun _ => hk g2 b2), hne, by rw [hs]; exact l1, by rw [hs]; exact l2⟩, by omega, by omega, (hb.setCell (p := ⟨w.heap.size + 1, 0, none⟩) (Nat.le_succ _) _).setCell (p := ⟨w.heap.size + 1, 1, none⟩) (Nat.le_succ _) _⟩

set_option maxRecDepth 100000 in
set_option maxHeartbeats 4000000 in
theorem l32Copy_any (P : List Pg) (N : List Pn) (pv nv : Value) (w : World) (lo hi : Nat) (hp : RcsAt fPg w lo hi pv P) (hn : RcsAt fPn w lo hi nv N) (hhi : hi ≤ w.heap.size) (hP : P.length ≤ 1000) (hN : N.length ≤ 1000) :
    Calls Tryd.prog 26 #[.agg #[pv, nv]] w fun e w' => ∃ b1 b2 a1 c1 a2 c2, e = .returned (.agg #[.slice a1 P.length c1, .slice a2 N.length c2]) ∧ N.length ≤ c2 ∧ OwnPgs w' b1 b2 (.slice a1 P.length c1) (.slice a2 N.length c2) P N ∧ w.heap.size ≤ b1 ∧ w.heap.size ≤ b2 ∧ Below w.heap.size w w' := by
  have HP : Hid (∀ W, Below w.heap.size w W → RcsAt fPg W lo hi pv P) := fun W hW => hp.keep hW hhi
  have HN : Hid (∀ W, Below w.heap.size w W → RcsAt fPn W lo hi nv N) := fun W hW => hn.keep hW hhi
  obtain ⟨pa, pc, rfl⟩ : ∃ a c, pv = .slice a P.length c := by obtain ⟨a, c, e, _⟩ := hp; exact ⟨_, _, e⟩
  obtain ⟨na, nc, rfl⟩ : ∃ a c, nv = .slice a N.length c := by obtain ⟨a, c, e, _⟩ := hn; exact ⟨_, _, e⟩
  obtain ⟨iP, hiP', hzP, hsP, hbP⟩ := info_page
  obtain ⟨iN, hiN', hzN, hsN, hbN⟩ := info_pname
  have hiP := hide hiP'
  have hiN := hide hiN'
  clear hp hn hiP' hiN'
  go_enter Tryd.func26, Tryd.ntmps26
  go_wp2_with fail
  generalize hW : (w.alloc (.cells #[.slice pa P.length pc, .slice na N.length nc] 32)).alloc (.cells #[.slice none 0 0, .slice none 0 0] 32) = W
  have HW : Hid (Below w.heap.size w W ∧ Blk W w.heap.size #[.slice pa P.length pc, .slice na N.length nc] 32 ∧ Blk W (w.heap.size + 1) #[.slice none 0 0, .slice none 0 0] 32 ∧ W.heap.size = w.heap.size + 2) := by
    subst hW
    exact ⟨((Below.refl _ _).alloc (Nat.le_refl _) _).alloc (by simp) _, (Blk.new w _ _).alloc _, Blk.atn (by simp), by simp⟩
  clear hW
  have x0 := HW.out.2.1.cell 0 _ rfl
  have x1 := HW.out.2.1.cell 1 _ rfl
  have xl := HW.out.2.1.lt
  have HWa : Hid (∀ o, Below w.heap.size w (W.alloc o) ∧ Below W.heap.size W (W.alloc o)) := fun o => ⟨HW.out.1.alloc HW.out.1.size o, (Below.refl _ _).alloc (Nat.le_refl _) o⟩
  have HWaa : Hid (∀ o o', Below w.heap.size w ((W.alloc o).alloc o') ∧ Below W.heap.size W ((W.alloc o).alloc o')) := fun o o' => ⟨(HWa.out o).1.alloc (HWa.out o).1.size o', (HWa.out o).2.alloc (by simp) o'⟩
  have HBx : Hid (∀ W', Below W.heap.size W W' → W'.cell? ⟨w.heap.size, 0, none⟩ = some (.slice pa P.length pc) ∧ W'.cell? ⟨w.heap.size, 1, none⟩ = some (.slice na N.length nc) ∧ w.heap.size < W'.heap.size) := fun W' hb => ⟨(HW.out.2.1.below hb HW.out.2.1.lt).cell 0 _ rfl, (HW.out.2.1.below hb HW.out.2.1.lt).cell 1 _ rfl, Nat.lt_of_lt_of_le HW.out.2.1.lt hb.size⟩
  have HRx : Hid (∀ W', Below W.heap.size W W' → Blk W' (w.heap.size + 1) #[.slice none 0 0, .slice none 0 0] 32) := fun W' hb => HW.out.2.2.1.below hb HW.out.2.2.1.lt
  go_region_law (first
    | (refine step_copyR (f := fPg) 74 29 iP _ 32 Tryd.underlying29 hiP.out hzP hsP hbP rfl rfl (.tmp 3) (.tmp 5) rfl P pa pc lo hi W.heap.size (W.heap.size) (by rfl) (by rfl) (by first | exact Blk.drewI (Blk.new _ _ _) | exact Blk.drewI ((Blk.new _ _ _).alloc _)) (by omega) (HP.out _ (by first | exact (HWa.out _).1.drew | exact (HWaa.out _ _).1.drew)) (flat_oneP P) (by omega) (by omega) (by simp <;> omega) ?_
       intro aA cA wA gA hown hgr hat hor
       have HA := hide (copied HW.out.1 hown hat (grown_below hgr (by omega) (by simp <;> omega)) (by first | exact (HWa.out _).2.drew | exact (HWaa.out _ _).2.drew) trivial)
       obtain ⟨q0A, q1A, qlA⟩ := HBx.out wA HA.out.2.2.2.1
       have HOA := hide hor
       have HCA := hide (row_cap hown)
       have HKA := hide hgr.block
       clear hown hgr hat hor)
    | (refine step_copyR (f := fPg) 74 29 iP _ 32 Tryd.underlying29 hiP.out hzP hsP hbP rfl rfl (.tmp 3) (.tmp 5) rfl P pa pc lo hi W.heap.size (W.heap.size + 1) (by rfl) (by rfl) (by exact Blk.drewI (Blk.atn (by simp))) (by omega) (HP.out _ (by first | exact (HWa.out _).1.drew | exact (HWaa.out _ _).1.drew)) (flat_oneP P) (by omega) (by omega) (by simp <;> omega) ?_
       intro aA cA wA gA hown hgr hat hor
       have HA := hide (copied HW.out.1 hown hat (grown_below hgr (by omega) (by simp <;> omega)) (by first | exact (HWa.out _).2.drew | exact (HWaa.out _ _).2.drew) trivial)
       obtain ⟨q0A, q1A, qlA⟩ := HBx.out wA HA.out.2.2.2.1
       have HOA := hide hor
       have HCA := hide (row_cap hown)
       have HKA := hide hgr.block
       clear hown hgr hat hor)
    | (refine step_copyR (f := fPn) 68 30 iN _ 32 Tryd.underlying30 hiN.out hzN hsN hbN rfl rfl (.tmp 7) (.tmp 9) rfl N na nc lo hi W.heap.size (W.heap.size) (by rfl) (by rfl) (by first | exact Blk.drewI (Blk.new _ _ _) | exact Blk.drewI ((Blk.new _ _ _).alloc _)) (by omega) (HN.out _ (by first | exact (HWa.out _).1.drew | exact (HWaa.out _ _).1.drew)) (flat_oneN N) (by omega) (by omega) (by simp <;> omega) ?_
       intro aB cB wB gB hown hgr hat hor
       have HB := hide (copied HW.out.1 hown hat (grown_below hgr (by omega) (by simp <;> omega)) (by first | exact (HWa.out _).2.drew | exact (HWaa.out _ _).2.drew) trivial)
       obtain ⟨q0B, q1B, qlB⟩ := HBx.out wB HB.out.2.2.2.1
       have HOB := hide hor
       have HCB := hide (row_cap hown)
       have HKB := hide hgr.block
       clear hown hgr hat hor)
    | (refine step_copyR (f := fPn) 68 30 iN _ 32 Tryd.underlying30 hiN.out hzN hsN hbN rfl rfl (.tmp 7) (.tmp 9) rfl N na nc lo hi W.heap.size (W.heap.size + 1) (by rfl) (by rfl) (by exact Blk.drewI (Blk.atn (by simp))) (by omega) (HN.out _ (by first | exact (HWa.out _).1.drew | exact (HWaa.out _ _).1.drew)) (flat_oneN N) (by omega) (by omega) (by simp <;> omega) ?_
       intro aB cB wB gB hown hgr hat hor
       have HB := hide (copied HW.out.1 hown hat (grown_below hgr (by omega) (by simp <;> omega)) (by first | exact (HWa.out _).2.drew | exact (HWaa.out _ _).2.drew) trivial)
       obtain ⟨q0B, q1B, qlB⟩ := HBx.out wB HB.out.2.2.2.1
       have HOB := hide hor
       have HCB := hide (row_cap hown)
       have HKB := hide hgr.block
       clear hown hgr hat hor)
    | (refine step_copyR (f := fPg) 74 29 iP _ 32 Tryd.underlying29 hiP.out hzP hsP hbP rfl rfl (.tmp 3) (.tmp 5) rfl P pa pc lo hi W.heap.size (wB.heap.size) (by rfl) (by rfl) (by exact Blk.new _ _ _) (by have := HB.out.2.2; omega) (HP.out _ (by exact (HB.out.2.1.alloc HB.out.2.1.size _))) (flat_oneP P) (by omega) (by omega) (by have := HB.out.2.2; simp; omega) ?_
       intro aA cA wA gA hown hgr hat hor
       have HA := hide (copied HW.out.1 hown hat (grown_below hgr (by have := HB.out.2.2; omega) (by have := HB.out.2.2; simp; omega)) (HB.out.2.2.2.1.alloc HB.out.2.2.2.1.size _) trivial)
       have HCA := hide (row_cap hown)
       have r0 := (HRx.out wA HA.out.2.2.2.1).cell 0 _ rfl
       have r1 := (HRx.out wA HA.out.2.2.2.1).cell 1 _ rfl
       have t0 := (HRx.out wA HA.out.2.2.2.1).frozen 0
       have t1 := (HRx.out wA HA.out.2.2.2.1).frozen 1
       have HF : Hid (OwnRcs fPn wA gB (gB + 1) gB (.slice aB N.length cB) N ∧ gB ≠ gA ∧ gB < wA.heap.size) := copied_old HB.out.1 ((hgr.block gB (by have := HB.out.2.2; simp; omega) (fun e => by have := HB.out.2.2; simp only [Option.some.injEq] at e; omega)).trans (Lib.alloc_old _ _ _ HB.out.2.2.2.2)) (by have := HB.out.2.2; rcases hor with h | h; omega; simp at h; omega) (Nat.lt_of_lt_of_le HB.out.2.2.2.2 (by have := hgr.size; first | omega | (simp at this; omega)))
       clear hown hgr hat hor)
    | (refine step_copyR (f := fPg) 74 29 iP _ 32 Tryd.underlying29 hiP.out hzP hsP hbP rfl rfl (.tmp 3) (.tmp 5) rfl P pa pc lo hi W.heap.size (W.heap.size) (by rfl) (by rfl) (by exact (HKB.out _ (by simp <;> omega) (by simp)).trans (Blk.drewI ((Blk.new _ _ _).alloc _))) (by omega) (HP.out _ (by exact HB.out.2.1)) (flat_oneP P) (by omega) (by omega) (by have := HB.out.2.2; omega) ?_
       intro aA cA wA gA hown hgr hat hor
       have HA := hide (copied HW.out.1 hown hat (grown_below hgr (by omega) (by have := HB.out.2.2; omega)) HB.out.2.2.2.1 trivial)
       have HCA := hide (row_cap hown)
       have r0 := (HRx.out wA HA.out.2.2.2.1).cell 0 _ rfl
       have r1 := (HRx.out wA HA.out.2.2.2.1).cell 1 _ rfl
       have t0 := (HRx.out wA HA.out.2.2.2.1).frozen 0
       have t1 := (HRx.out wA HA.out.2.2.2.1).frozen 1
       have HF : Hid (OwnRcs fPn wA gB (gB + 1) gB (.slice aB N.length cB) N ∧ gB ≠ gA ∧ gB < wA.heap.size) := copied_old HB.out.1 (hgr.block gB HB.out.2.2.2.2 (fun e => by have h := HOB.out; simp at h; simp only [Option.some.injEq] at e; omega)) (by have h1 := HB.out.2.2; have h := HOB.out; simp at h; rcases hor with h2 | h2 <;> omega) (Nat.lt_of_lt_of_le HB.out.2.2.2.2 (by have := hgr.size; first | omega | (simp at this; omega)))
       clear hown hgr hat hor)
    | (refine step_copyR (f := fPg) 74 29 iP _ 32 Tryd.underlying29 hiP.out hzP hsP hbP rfl rfl (.tmp 3) (.tmp 5) rfl P pa pc lo hi W.heap.size (W.heap.size + 1) (by rfl) (by rfl) (by exact (HKB.out _ (by simp <;> omega) (by simp)).trans (Blk.drewI (Blk.atn (by simp)))) (by omega) (HP.out _ (by exact HB.out.2.1)) (flat_oneP P) (by omega) (by omega) (by have := HB.out.2.2; omega) ?_
       intro aA cA wA gA hown hgr hat hor
       have HA := hide (copied HW.out.1 hown hat (grown_below hgr (by omega) (by have := HB.out.2.2; omega)) HB.out.2.2.2.1 trivial)
       have HCA := hide (row_cap hown)
       have r0 := (HRx.out wA HA.out.2.2.2.1).cell 0 _ rfl
       have r1 := (HRx.out wA HA.out.2.2.2.1).cell 1 _ rfl
       have t0 := (HRx.out wA HA.out.2.2.2.1).frozen 0
       have t1 := (HRx.out wA HA.out.2.2.2.1).frozen 1
       have HF : Hid (OwnRcs fPn wA gB (gB + 1) gB (.slice aB N.length cB) N ∧ gB ≠ gA ∧ gB < wA.heap.size) := copied_old HB.out.1 (hgr.block gB HB.out.2.2.2.2 (fun e => by have h := HOB.out; simp at h; simp only [Option.some.injEq] at e; omega)) (by have h1 := HB.out.2.2; have h := HOB.out; simp at h; rcases hor with h2 | h2 <;> omega) (Nat.lt_of_lt_of_le HB.out.2.2.2.2 (by have := hgr.size; first | omega | (simp at this; omega)))
       clear hown hgr hat hor)
    | (refine step_copyR (f := fPn) 68 30 iN _ 32 Tryd.underlying30 hiN.out hzN hsN hbN rfl rfl (.tmp 7) (.tmp 9) rfl N na nc lo hi W.heap.size (wA.heap.size) (by rfl) (by rfl) (by exact Blk.new _ _ _) (by have := HA.out.2.2; omega) (HN.out _ (by exact (HA.out.2.1.alloc HA.out.2.1.size _))) (flat_oneN N) (by omega) (by omega) (by have := HA.out.2.2; simp; omega) ?_
       intro aB cB wB gB hown hgr hat hor
       have HB := hide (copied HW.out.1 hown hat (grown_below hgr (by have := HA.out.2.2; omega) (by have := HA.out.2.2; simp; omega)) (HA.out.2.2.2.1.alloc HA.out.2.2.2.1.size _) trivial)
       have HCB := hide (row_cap hown)
       have r0 := (HRx.out wB HB.out.2.2.2.1).cell 0 _ rfl
       have r1 := (HRx.out wB HB.out.2.2.2.1).cell 1 _ rfl
       have t0 := (HRx.out wB HB.out.2.2.2.1).frozen 0
       have t1 := (HRx.out wB HB.out.2.2.2.1).frozen 1
       have HF : Hid (OwnRcs fPg wB gA (gA + 1) gA (.slice aA P.length cA) P ∧ gA ≠ gB ∧ gA < wB.heap.size) := copied_old HA.out.1 ((hgr.block gA (by have := HA.out.2.2; simp; omega) (fun e => by have := HA.out.2.2; simp only [Option.some.injEq] at e; omega)).trans (Lib.alloc_old _ _ _ HA.out.2.2.2.2)) (by have := HA.out.2.2; rcases hor with h | h; omega; simp at h; omega) (Nat.lt_of_lt_of_le HA.out.2.2.2.2 (by have := hgr.size; first | omega | (simp at this; omega)))
       clear hown hgr hat hor)
    | (refine step_copyR (f := fPn) 68 30 iN _ 32 Tryd.underlying30 hiN.out hzN hsN hbN rfl rfl (.tmp 7) (.tmp 9) rfl N na nc lo hi W.heap.size (W.heap.size) (by rfl) (by rfl) (by exact (HKA.out _ (by simp <;> omega) (by simp)).trans (Blk.drewI ((Blk.new _ _ _).alloc _))) (by omega) (HN.out _ (by exact HA.out.2.1)) (flat_oneN N) (by omega) (by omega) (by have := HA.out.2.2; omega) ?_
       intro aB cB wB gB hown hgr hat hor
       have HB := hide (copied HW.out.1 hown hat (grown_below hgr (by omega) (by have := HA.out.2.2; omega)) HA.out.2.2.2.1 trivial)
       have HCB := hide (row_cap hown)
       have r0 := (HRx.out wB HB.out.2.2.2.1).cell 0 _ rfl
       have r1 := (HRx.out wB HB.out.2.2.2.1).cell 1 _ rfl
       have t0 := (HRx.out wB HB.out.2.2.2.1).frozen 0
       have t1 := (HRx.out wB HB.out.2.2.2.1).frozen 1
       have HF : Hid (OwnRcs fPg wB gA (gA + 1) gA (.slice aA P.length cA) P ∧ gA ≠ gB ∧ gA < wB.heap.size) := copied_old HA.out.1 (hgr.block gA HA.out.2.2.2.2 (fun e => by have h := HOA.out; simp at h; simp only [Option.some.injEq] at e; omega)) (by have h1 := HA.out.2.2; have h := HOA.out; simp at h; rcases hor with h2 | h2 <;> omega) (Nat.lt_of_lt_of_le HA.out.2.2.2.2 (by have := hgr.size; first | omega | (simp at this; omega)))
       clear hown hgr hat hor)
    | (refine step_copyR (f := fPn) 68 30 iN _ 32 Tryd.underlying30 hiN.out hzN hsN hbN rfl rfl (.tmp 7) (.tmp 9) rfl N na nc lo hi W.heap.size (W.heap.size + 1) (by rfl) (by rfl) (by exact (HKA.out _ (by simp <;> omega) (by simp)).trans (Blk.drewI (Blk.atn (by simp)))) (by omega) (HN.out _ (by exact HA.out.2.1)) (flat_oneN N) (by omega) (by omega) (by have := HA.out.2.2; omega) ?_
       intro aB cB wB gB hown hgr hat hor
       have HB := hide (copied HW.out.1 hown hat (grown_below hgr (by omega) (by have := HA.out.2.2; omega)) HA.out.2.2.2.1 trivial)
       have HCB := hide (row_cap hown)
       have r0 := (HRx.out wB HB.out.2.2.2.1).cell 0 _ rfl
       have r1 := (HRx.out wB HB.out.2.2.2.1).cell 1 _ rfl
       have t0 := (HRx.out wB HB.out.2.2.2.1).frozen 0
       have t1 := (HRx.out wB HB.out.2.2.2.1).frozen 1
       have HF : Hid (OwnRcs fPg wB gA (gA + 1) gA (.slice aA P.length cA) P ∧ gA ≠ gB ∧ gA < wB.heap.size) := copied_old HA.out.1 (hgr.block gA HA.out.2.2.2.2 (fun e => by have h := HOA.out; simp at h; simp only [Option.some.injEq] at e; omega)) (by have h1 := HA.out.2.2; have h := HOA.out; simp at h; rcases hor with h2 | h2 <;> omega) (Nat.lt_of_lt_of_le HA.out.2.2.2.2 (by have := hgr.size; first | omega | (simp at this; omega)))
       clear hown hgr hat hor))
  all_goals
    go_wp2_with fail
    refine bodyPost_ret (v := .agg #[.slice aA P.length cA, .slice aB N.length cB]) (by simp [results, Tryd.results26, go_sem, r0, r1]) rfl ?_
    first
      | exact copied_end HW.out.1 HW.out.2.2.2 HB.out.2.2.2.1 HF.out.1 HB.out.1 HF.out.2.1 HF.out.2.2 HB.out.2.2.2.2 HA.out.2.2.1 HB.out.2.2.1 HCB.out
      | exact copied_end HW.out.1 HW.out.2.2.2 HA.out.2.2.2.1 HA.out.1 HF.out.1 HF.out.2.1.symm HA.out.2.2.2.2 HF.out.2.2 HA.out.2.2.1 HB.out.2.2.1 HCB.out

end Go.Proofs.YtnahpghbodmdbaaDoor
