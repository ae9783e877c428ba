/- Pages of which none is used: the specification's and the program's. -/
import Derived.Test.YtpakdijknidgcaaQI
import Derived.Test.YtpakdijknidgcaaPgh
namespace Go.Proofs.Ytpakdijknidgcaa
open Go.RowKit

def emptyPg : Pg := ⟨false, ⟨#[]⟩, -1⟩
def zeroPg : Array Value := #[.bool false, .string ⟨#[]⟩, .int .i64 0]
theorem info_Pg : ∃ i, Try.prog.info? 33 = some i ∧ i.zero = some (.agg zeroPg) ∧ i.size = 3 ∧ i.bytes = 32 := by
  obtain ⟨i, hi, h⟩ := Option.map_eq_some_iff.1 (show (Try.prog.info? 33).map (fun i => (i.zero, i.size, i.bytes)) = some (some (.agg zeroPg), 3, 32) by kernel_rfl)
  simp only [Prod.mk.injEq] at h
  exact ⟨i, hi, h.1, h.2.1, h.2.2⟩
theorem rep_snoc (k : Nat) : flat3 fPg (List.replicate k emptyPg) ++ [.bool false, .string ⟨#[]⟩, .int .i64 (-1)] = flat3 fPg (List.replicate (k + 1) emptyPg) := by
  rw [List.replicate_succ', flat3_snoc]; rfl

/-- New pages, in memory of their own. -/
def NewPgs (w : World) (e : Ending) (w' : World) : Prop := ∃ b1 b2 v1 v2, e = .returned (.agg #[v1, v2]) ∧ OwnPgs w' b1 b2 v1 v2 (List.replicate 96 emptyPg) [] ∧ w.heap.size ≤ b1 ∧ w.heap.size ≤ b2 ∧ Below w.heap.size w w'

theorem newPgs_of {w w' : World} {base : Nat} {t : TypeId} {iv : Value} (b2 : Nat) (hr : w'.ownsRow base t 3 iv 96 (flat3 fPg (List.replicate 96 emptyPg))) (h1 : w.heap.size ≤ b2) (h2 : b2 < base) (h3 : base ≤ w'.heap.size) (hb : Below w.heap.size w w') : NewPgs w (.returned (.agg #[iv, .slice none 0 0])) w' := by
  obtain ⟨b1, ho, hbk⟩ := ownRcs_row (f := fPg) (l := List.replicate 96 emptyPg) (by rw [List.length_replicate]; exact hr)
  have hb1 := ho.2.2.1 (by simp)
  exact ⟨b1, b2, _, _, rfl, ⟨ho.one, OwnRcs.nil _ _ _ _ _ _ _, by omega, hb1.2, by omega⟩, by omega, h1, hb⟩

/-- Between two rounds of the specification. -/
structure SnI (w : World) (k : Nat) (iv : Value) (wr : World) : Prop where
  below : Below w.heap.size w wr
  res : Blk wr w.heap.size #[.slice none 0 0, .slice none 0 0] 25
  box : Blk wr (w.heap.size + 1) #[iv, .slice none 0 0] 25
  row : wr.ownsRow (w.heap.size + 2) 33 3 iv k (flat3 fPg (List.replicate k emptyPg))

theorem SnI.next {w : World} {k : Nat} {iv : Value} {wr w1 : World} {o : Obj} {g cap : Nat} (h : SnI w k iv wr) (hown : w1.ownsRow (w.heap.size + 2) 33 3 (.slice (some ⟨g, 0, none⟩) (k + 1) cap) (k + 1) (flat3 fPg (List.replicate k emptyPg) ++ [.bool false, .string ⟨#[]⟩, .int .i64 (-1)]))
    (hg : (wr.alloc o).grownBy w1 iv.ownBlock) : SnI w (k + 1) (.slice (some ⟨g, 0, none⟩) (k + 1) cap) (w1.setCell ⟨w.heap.size + 1, 0, none⟩ (.slice (some ⟨g, 0, none⟩) (k + 1) cap)) := by
  have hr := h.row
  have hne : ∀ b, b < w.heap.size + 2 → some b ≠ iv.ownBlock := fun b hb e => by have := (hr.lt b e.symm).1; omega
  have hbelow : Below w.heap.size w w1 := (h.below.alloc h.below.size o).grown hg (by have := h.below.size; simp; omega) (fun g' hg' => by have := (hr.lt g' hg').1; omega)
  have k0 := h.res.lt
  have k1 := h.box.lt
  have b0 : Blk w1 w.heap.size _ _ := (hg.block _ (by simp; omega) (hne _ (by omega))).trans ((Below.heap_alloc _ _ _ k0).trans h.res)
  have b1 : Blk w1 (w.heap.size + 1) _ _ := (hg.block _ (by simp; omega) (hne _ (by omega))).trans ((Below.heap_alloc _ _ _ k1).trans h.box)
  have hgl := (hown.lt g rfl).1
  refine ⟨hbelow.setCell (p := ⟨w.heap.size + 1, 0, none⟩) (by show _ ≤ w.heap.size + 1; omega) _, b0.other _ _ (by show w.heap.size ≠ w.heap.size + 1; omega), b1.set 0 _, ?_⟩
  rw [rep_snoc] at hown
  exact ownsRow_same hown fun g' hg' => Below.heap_setCell _ _ _ _ (by show g' ≠ w.heap.size + 1; simp only [Value.ownBlock, Option.some.injEq] at hg'; omega)

theorem SnI.box_after {w : World} {k : Nat} {iv : Value} {wr w1 : World} {o : Obj} (h : SnI w k iv wr) (hg : (wr.alloc o).grownBy w1 iv.ownBlock) : w1.heap[w.heap.size + 1]? = wr.heap[w.heap.size + 1]? := by
  have k1 := h.box.lt
  rw [hg.block _ (by simp; omega) (fun e => by have := (h.row.lt _ e.symm).1; omega)]
  exact Below.heap_alloc _ _ _ k1

set_option maxHeartbeats 2000000 in
theorem specNew_any (w : World) : Calls Try.prog 5 #[] w fun e w' => NewPgs w e w' := by
  obtain ⟨iR, hiR', hzR, hsR, hbR⟩ := info_Pg
  have hiR := hide hiR'
  clear hiR'
  go_enter Try.func5, Try.ntmps5
  go_wp2_with fail
  go_loopw [2] (fun i wr => ∃ (k : Nat) (iv : Value), k ≤ 96 ∧ i = .int .i64 k ∧ Hid (SnI w k iv wr)) (fun i _ => 96 - (intOf i).toNat)
  case atStart =>
    refine ⟨0, .slice none 0 0, by omega, rfl, ((Below.refl _ _).alloc (Nat.le_refl _) _).alloc (by simp) _, (Blk.new w _ _).alloc _, Blk.atn (by simp), ?_⟩
    exact ⟨rfl, .inl ⟨rfl, rfl⟩⟩
  case round =>
    obtain ⟨k, iv, hk, rfl, HS⟩ := hrel
    have x0 := HS.out.box.cell 0 _ rfl
    by_cases hlt : k < 96
    · have hltI : (k : Int) < 96 := by omega
      have x1 := HS.out.box.frozen 0
      obtain ⟨ia, ic, rfl⟩ := ownsRow_form HS.out.row
      have HSZ : Hid (w.heap.size + 2 ≤ wr.heap.size) := by have := HS.out.box.lt; show _ ≤ _; omega
      have HRow : Hid (∀ o, (wr.alloc o).ownsRow (w.heap.size + 2) 33 3 (.slice ia k ic) k (flat3 fPg (List.replicate k emptyPg))) := fun o => HS.out.row.alloc _
      go_wp2_with (at_builtin; refine wpList_append_lies _ rfl _ _ 22 rfl (w.heap.size + 2) 33 iR (.agg zeroPg) 3 32 Try.underlying22 hiR.out hzR hsR hbR rfl (by decide) (.slice ia k ic) k (flat3 fPg (List.replicate k emptyPg)) rfl (HRow.out _) ⟨wr.heap.size, 0, none⟩ 1 1 [.bool false, .string ⟨#[]⟩, .int .i64 (-1)] rfl (by simp) (World.news_of_block (heap_alloc_new wr _)) (by simp [Value.oneCell']) (by decide) (by unfold maxLen; omega) (by omega) (by have := HSZ.out; simp; omega) _ rfl ?_; intro g cap w1 hown hgrow hat hgl; have HN := hide (HS.out.next hown hgrow); have hbt := HS.out.box_after hgrow; have z4 := (World.cell?_of_block (a := ⟨w.heap.size + 1, 0, none⟩) hbt).trans x0; have z4f := (World.frozen?_of_block (a := ⟨w.heap.size + 1, 0, none⟩) hbt).trans x1; clear hown hgrow hat hbt)
      go_roundw
      case rel => exact ⟨k + 1, _, by omega, by go_num, HN⟩
      case measure => simp [intOf]; omega
    · obtain rfl : k = 96 := by omega
      obtain ⟨ia, ic, rfl⟩ := ownsRow_form HS.out.row
      have x2 := HS.out.box.cell 1 _ rfl
      have y0 := HS.out.res.cell 0 _ rfl
      have y1 := HS.out.res.cell 1 _ rfl
      have y2 := HS.out.res.frozen 0
      have y3 := HS.out.res.frozen 1
      go_wp2_with fail
      refine bodyPost_ret (v := .agg #[.slice ia 96 ic, .slice none 0 0]) (by simp [results, Try.results5, go_sem, y0, y1]) rfl ?_
      have hr := HS.out.row
      have hs0 := HS.out.below.size
      have hs := HS.out.box.lt
      refine newPgs_of (t := 33) (base := w.heap.size + 2) w.heap.size (ownsRow_same hr fun g hg => ?_) (Nat.le_refl _) (by omega) (by simp [World.setCell]; omega) ((HS.out.below.setCell (p := ⟨w.heap.size, 0, none⟩) (Nat.le_refl _) _).setCell (p := ⟨w.heap.size, 1, none⟩) (Nat.le_refl _) _)
      have := (hr.lt g hg).1
      rw [Below.heap_setCell _ _ _ _ (by show g ≠ w.heap.size; omega), Below.heap_setCell _ _ _ _ (by show g ≠ w.heap.size; omega)]

/-- Between two rounds of the program: k pages, j of them in the queue. -/
structure ShI (w : World) (k j : Nat) (lv iv : Value) (wr : World) : Prop where
  below : Below w.heap.size w wr
  q : QI wr (w.heap.size + 1) w.heap.size iv (List.range j)
  c0 : wr.cell? ⟨w.heap.size, 0, none⟩ = some lv
  f0 : wr.frozen? ⟨w.heap.size, 0, none⟩ = false
  c1 : wr.cell? ⟨w.heap.size, 1, none⟩ = some (.slice none 0 0)
  row : wr.ownsRow (w.heap.size + 1) 33 3 lv k (flat3 fPg (List.replicate k emptyPg))
  apart : ∀ g, lv.ownBlock = some g → iv.ownBlock ≠ some g

theorem ShI.sb_after {w : World} {k j : Nat} {lv iv : Value} {wr w1 : World} {o : Obj} (h : ShI w k j lv iv wr) (hg : (wr.alloc o).grownBy w1 lv.ownBlock) : w1.heap[w.heap.size]? = wr.heap[w.heap.size]? := by
  have k1 := h.q.lt
  rw [hg.block _ (by simp; omega) (fun e => by have := (h.row.lt _ e.symm).1; omega)]
  exact Below.heap_alloc _ _ _ k1

theorem ShI.app {w : World} {k j : Nat} {lv iv : Value} {wr w1 : World} {o : Obj} {g cap : Nat} (h : ShI w k j lv iv wr) (hown : w1.ownsRow (w.heap.size + 1) 33 3 (.slice (some ⟨g, 0, none⟩) (k + 1) cap) (k + 1) (flat3 fPg (List.replicate k emptyPg) ++ [.bool false, .string ⟨#[]⟩, .int .i64 (-1)]))
    (hg : (wr.alloc o).grownBy w1 lv.ownBlock) (hat : lv.ownBlock = some g ∨ g = (wr.alloc o).heap.size) : ShI w (k + 1) j (.slice (some ⟨g, 0, none⟩) (k + 1) cap) iv (w1.setCell ⟨w.heap.size, 0, none⟩ (.slice (some ⟨g, 0, none⟩) (k + 1) cap)) := by
  have hr := h.row
  have hsb := h.sb_after hg
  have k1 := h.q.lt
  have hbelow : Below w.heap.size w w1 := (h.below.alloc h.below.size o).grown hg (by have := h.below.size; simp; omega) (fun g' hg' => by have := (hr.lt g' hg').1; omega)
  have hgl := (hown.lt g rfl).1
  have hs1 : wr.heap.size + 1 ≤ w1.heap.size := by have := hg.size; simpa using this
  have cel : ∀ x, w1.cell? ⟨w.heap.size, x, none⟩ = wr.cell? ⟨w.heap.size, x, none⟩ := fun x => World.cell?_of_block hsb
  have fro : ∀ x, w1.frozen? ⟨w.heap.size, x, none⟩ = wr.frozen? ⟨w.heap.size, x, none⟩ := fun x => World.frozen?_of_block hsb
  have ne : ∀ x : Nat, x ≠ 0 → (⟨w.heap.size, 0, none⟩ : Addr) ≠ ⟨w.heap.size, x, none⟩ := fun x hx e => by injection e with _ e2 _; omega
  have hig : ∀ b, iv.ownBlock = some b → w1.heap[b]? = wr.heap[b]? ∧ b ≠ w.heap.size := fun b hb => by
    have hl := h.q.ir.lt b hb
    refine ⟨?_, by omega⟩
    rw [hg.block _ (by simp; omega) (fun e => h.apart b e.symm hb)]
    exact Below.heap_alloc _ _ _ hl.2
  rw [rep_snoc] at hown
  refine ⟨hbelow.setCell (p := ⟨w.heap.size, 0, none⟩) (Nat.le_refl _) _, ⟨?_, ?_, ?_, ?_, h.q.ne, by have := h.q.low; simp [World.setCell]; omega, by simp [World.setCell]; omega⟩, ?_, ?_, ?_, ?_, ?_⟩
  · rw [World.cell?_setCell_other _ _ _ _ (ne 2 (by omega)), cel]; exact h.q.c2
  · rw [World.frozen?_setCell, fro]; exact h.q.f2
  · rw [World.cell?_setCell_other _ _ _ _ (ne 3 (by omega)), cel]; exact h.q.c3
  · exact ownsRow_same h.q.ir fun b hb => by rw [Below.heap_setCell _ _ _ _ (hig b hb).2]; exact (hig b hb).1
  · exact World.cell?_setCell_same' _ _ _ (by rw [cel, h.c0]; rfl)
  · rw [World.frozen?_setCell, fro]; exact h.f0
  · rw [World.cell?_setCell_other _ _ _ _ (ne 1 (by omega)), cel]; exact h.c1
  · exact ownsRow_same hown fun b hb => Below.heap_setCell _ _ _ _ (by show b ≠ w.heap.size; simp only [Value.ownBlock, Option.some.injEq] at hb; omega)
  · intro b hb hi
    have hl := h.q.ir.lt b hi
    simp only [Value.ownBlock, Option.some.injEq] at hb
    subst hb
    rcases hat with e | e
    · exact h.apart _ e hi
    · simp at e; omega

theorem ShI.put {w : World} {k j : Nat} {lv iv iv' : Value} {wr w' : World} (h : ShI w k j lv iv wr) (hq : QI w' (w.heap.size + 1) w.heap.size iv' (List.range j ++ [j])) (hf : QFr w.heap.size iv wr w') (hat : iv'.ownBlock = iv.ownBlock ∨ ∃ g, iv'.ownBlock = some g ∧ wr.heap.size ≤ g) :
    ShI w k (j + 1) lv iv' w' := by
  refine ⟨h.below.trans (hf.toBelow (Nat.le_refl _) (fun b hb => by have := (h.q.ir.lt b hb).1; omega) h.below.size), by rw [List.range_succ]; exact hq, by rw [hf.cell 0 (by omega)]; exact h.c0, by rw [hf.fz]; exact h.f0, by rw [hf.cell 1 (by omega)]; exact h.c1, ?_, fun g hg hi => ?_⟩
  · exact ownsRow_same h.row fun b hb => hf.block b (h.row.lt b hb).2 (by have := (h.row.lt b hb).1; omega) (h.apart b hb)
  · rcases hat with e | ⟨g', e, h2⟩
    · exact h.apart g hg (by rw [← e]; exact hi)
    · have := (h.row.lt g hg).2
      rw [e] at hi
      simp only [Option.some.injEq] at hi
      omega

set_option maxHeartbeats 2000000 in
theorem newShelf_any (w : World) : Calls Try.prog 12 #[] w fun e w' => e = .returned (.pointer (some ⟨w.heap.size, 0, none⟩)) ∧ ∃ lv iv, ShI w 96 96 lv iv w' := by
  obtain ⟨iR, hiR', hzR, hsR, hbR⟩ := info_Pg
  have hiR := hide hiR'
  clear hiR'
  go_enter Try.func12, Try.ntmps12
  go_wp2_with fail
  go_loopw [6] (fun i wr => ∃ (k : Nat) (lv iv : Value), k ≤ 96 ∧ i = .int .i64 k ∧ Hid (ShI w k k lv iv wr)) (fun i _ => 96 - (intOf i).toNat)
  case atStart =>
    have hb := Blk.new w #[.slice none 0 0, .slice none 0 0, .slice none 0 0, .func (.func 21) #[] #[]] 46
    exact ⟨0, .slice none 0 0, .slice none 0 0, by omega, rfl, ⟨(Below.refl _ _).alloc (Nat.le_refl _) _, ⟨hb.cell 2 _ rfl, hb.frozen _, hb.cell 3 _ rfl, ⟨rfl, .inl ⟨rfl, rfl⟩⟩, (fun e => by cases e), by simp, by simp⟩, hb.cell 0 _ rfl, hb.frozen _, hb.cell 1 _ rfl, ⟨rfl, .inl ⟨rfl, rfl⟩⟩, fun g hg => by cases hg⟩⟩
  case round =>
    obtain ⟨k, lv, iv, hk, rfl, HS⟩ := hrel
    by_cases hlt : k < 96
    · have hltI : (k : Int) < 96 := by omega
      have x0 := HS.out.c0
      have x1 := HS.out.f0
      obtain ⟨ia, ic, rfl⟩ := ownsRow_form HS.out.row
      have HSZ : Hid (w.heap.size + 1 ≤ wr.heap.size) := HS.out.q.low
      have HRow : Hid (∀ o, (wr.alloc o).ownsRow (w.heap.size + 1) 33 3 (.slice ia k ic) k (flat3 fPg (List.replicate k emptyPg))) := fun o => HS.out.row.alloc _
      go_wp2_with (at_builtin; refine wpList_append_lies _ rfl _ _ 22 rfl (w.heap.size + 1) 33 iR (.agg zeroPg) 3 32 Try.underlying22 hiR.out hzR hsR hbR rfl (by decide) (.slice ia k ic) k (flat3 fPg (List.replicate k emptyPg)) rfl (HRow.out _) ⟨wr.heap.size, 0, none⟩ 1 1 [.bool false, .string ⟨#[]⟩, .int .i64 (-1)] rfl (by simp) (World.news_of_block (heap_alloc_new wr _)) (by simp [Value.oneCell']) (by decide) (by unfold maxLen; omega) (by omega) (by have := HSZ.out; simp; omega) _ rfl ?_; intro g cap w1 hown hgrow hat hgl; have HN := hide (HS.out.app hown hgrow hat); have hbt := HS.out.sb_after hgrow; have z4 := (World.cell?_of_block (a := ⟨w.heap.size, 0, none⟩) hbt).trans x0; have z4f := (World.frozen?_of_block (a := ⟨w.heap.size, 0, none⟩) hbt).trans x1; clear hown hgrow hat hbt)
      generalize w1.setCell ⟨w.heap.size, 0, none⟩ (.slice (some ⟨g, 0, none⟩) (k + 1) cap) = w2 at HN ⊢
      refine (qPutI_any w2 (w.heap.size + 1) w.heap.size iv (List.range k) k HN.out.q (fun y hy => by have := List.mem_range.1 hy; omega) (by simp; omega)).mono ?_
      rintro e w3 ⟨rfl, iv', hq, hf, hat2⟩
      have HN3 := hide (HN.out.put hq hf hat2)
      clear hq hf hat2
      go_wp2_with fail
      go_roundw
      case rel => exact ⟨k + 1, _, _, by omega, by go_num, HN3⟩
      case measure => simp [intOf]; omega
    · obtain rfl : k = 96 := by omega
      go_wp2_with fail
      go_ret
      exact ⟨rfl, _, _, HS.out⟩

set_option maxHeartbeats 1000000 in
theorem shelfPages_any (w1 : World) (sb na nc : Nat) (la : Option Addr) (ln lc : Nat) (ma : Option Addr) (h0 : w1.cell? ⟨sb, 0, none⟩ = some (.slice la ln lc)) (h1 : w1.cell? ⟨sb, 1, none⟩ = some (.slice ma na nc)) (hsb : sb < w1.heap.size) :
    Calls Try.prog 13 #[.pointer (some ⟨sb, 0, none⟩)] w1 fun e w' => e = .returned (.agg #[.slice la ln lc, .slice ma na nc]) ∧ Below w1.heap.size w1 w' := by
  go_enter Try.func13, Try.ntmps13
  go_wp2_with fail
  have y0 : (w1.alloc (.cells #[.slice none 0 0, .slice none 0 0] 25)).cell? ⟨sb, 0, none⟩ = some (.slice la ln lc) := by rw [World.cell?_alloc_old _ _ _ (by show sb ≠ _; omega)]; exact h0
  have y1 : (w1.alloc (.cells #[.slice none 0 0, .slice none 0 0] 25)).cell? ⟨sb, 1, none⟩ = some (.slice ma na nc) := by rw [World.cell?_alloc_old _ _ _ (by show sb ≠ _; omega)]; exact h1
  go_region
  all_goals
    go_wp2_with fail
    refine bodyPost_ret (v := .agg #[.slice la ln lc, .slice ma na nc]) (by simp [results, Try.results13, go_sem]) rfl ⟨rfl, ?_⟩
    exact ((Below.refl _ _).alloc (Nat.le_refl _) _).drew

set_option maxHeartbeats 1000000 in
theorem implNew_any (w : World) : Calls Try.prog 6 #[] w fun e w' => NewPgs w e w' := by
  have HN := hide (fun W => newShelf_any W)
  go_enter Try.func6, Try.ntmps6
  go_wp2_with fail
  generalize hW : w.alloc (.cells #[.slice none 0 0, .slice none 0 0] 25) = W
  have HW : Hid (Below w.heap.size w W ∧ W.heap.size = w.heap.size + 1 ∧ Blk W w.heap.size #[.slice none 0 0, .slice none 0 0] 25) := by subst hW; exact ⟨(Below.refl _ _).alloc (Nat.le_refl _) _, by simp, Blk.new w _ _⟩
  clear hW
  refine (HN.out W).mono ?_
  rintro e w1 ⟨rfl, lv, iv, hS⟩
  have HS := hide hS
  obtain ⟨ia, ic, rfl⟩ := ownsRow_form hS.row
  have HP1 := hide (shelfPages_any w1 W.heap.size 0 0 ia 96 ic none hS.c0 hS.c1 hS.q.lt)
  clear hS HN
  go_wp2_with fail
  refine HP1.out.mono ?_
  rintro e w2 ⟨rfl, hB⟩
  have hr := HS.out.row
  have HE : Hid (Below w.heap.size w w2 ∧ w.heap.size + 1 ≤ w2.heap.size ∧ w2.ownsRow (w.heap.size + 1) 33 3 (.slice ia 96 ic) 96 (flat3 fPg (List.replicate 96 emptyPg))) := by
    have h1 := HS.out.below.size
    have h2 := HW.out.2.1
    refine ⟨HW.out.1.trans ((HS.out.below.trans (hB.mono h1)).mono (by omega)), by have := hB.size; omega, ?_⟩
    have := ownsRow_same hr fun g hg => hB.block g (hr.lt g hg).2
    have hb' : w.heap.size + 1 ≤ W.heap.size + 1 := by omega
    rcases this with ⟨q1, q2 | ⟨g, cap, cur, q3, q4, q5⟩⟩
    · exact ⟨q1, .inl q2⟩
    · exact ⟨q1, .inr ⟨g, cap, cur, q3, by omega, q5⟩⟩
  have q := (HW.out.2.2.below HS.out.below HW.out.2.2.lt).below hB (Nat.lt_of_lt_of_le HW.out.2.2.lt HS.out.below.size)
  have y0 := q.cell 0 _ rfl
  have y1 := q.cell 1 _ rfl
  have y2 := q.frozen 0
  have y3 := q.frozen 1
  clear hB q hr
  go_wp2_with fail
  refine bodyPost_ret (v := .agg #[.slice ia 96 ic, .slice none 0 0]) (by simp [results, Try.results6, go_sem, y0, y1]) rfl ?_
  have hr := HE.out.2.2
  refine newPgs_of (t := 33) (base := w.heap.size + 1) w.heap.size (ownsRow_same hr fun g hg => ?_) (Nat.le_refl _) (by omega) (by have := HE.out.2.1; simp [World.setCell]; omega) ((HE.out.1.setCell (p := ⟨w.heap.size, 0, none⟩) (Nat.le_refl _) _).setCell (p := ⟨w.heap.size, 1, none⟩) (Nat.le_refl _) _)
  have := (hr.lt g hg).1
  rw [Below.heap_setCell _ _ _ _ (by show g ≠ w.heap.size; omega), Below.heap_setCell _ _ _ _ (by show g ≠ w.heap.size; omega)]

end Go.Proofs.Ytpakdijknidgcaa
