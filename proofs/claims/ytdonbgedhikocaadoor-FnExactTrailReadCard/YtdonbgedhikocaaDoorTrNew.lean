/- The program's newTrail: it says whether marks are a trail; if they are, they lie in its trie. -/
import Derived.Test.YtdonbgedhikocaaDoorTrN
import Derived.Deep.CutRange
namespace Go.Proofs.YtdonbgedhikocaaDoor
open Go.RowKit

theorem mcs_cell {w : World} {lo hi : Nat} {a : Option Addr} {cap : Nat} {l : List Mk} (h : McsAt w lo hi (.slice a l.length cap) l) (hhi : hi ≤ w.heap.size) (i : Nat) (hi' : i < l.length) :
    ∃ b o pa pc, a = some ⟨b, o, none⟩ ∧ (l[i].path.length ≤ pc ∧ pc ≤ maxLen) ∧ (∀ W, Below w.heap.size w W → W.cell? ⟨b, o + i * 2, none⟩ = some (.slice pa l[i].path.length pc) ∧ W.cell? ⟨b, o + i * 2 + 1, none⟩ = some (.bool l[i].sub) ∧ StrsAt W 0 w.heap.size (.slice pa l[i].path.length pc) l[i].path) := by
  obtain ⟨a', cap', he, _, hc⟩ := h
  simp only [Value.slice.injEq, true_and] at he
  obtain ⟨rfl, rfl⟩ := he
  obtain ⟨b, o, rfl, h1, h2, hcell⟩ := hc (by omega)
  obtain ⟨pa, pc, hpc, c0, c1, hr⟩ := hcell i hi'
  refine ⟨b, o, pa, pc, rfl, hpc, fun W hW => ⟨?_, ?_, (hr.keep hW hhi).wide (Nat.zero_le _) hhi⟩⟩
  · rw [hW.cell (p := ⟨b, _, none⟩) (by show b < w.heap.size; omega)]; exact c0
  · rw [hW.cell (p := ⟨b, _, none⟩) (by show b < w.heap.size; omega)]; exact c1

theorem markQ_len {m : Mk} (h : markQ m = true) : m.path.length ≤ 4 := by
  rw [markQ, Bool.and_eq_true, Bool.and_eq_true] at h
  have := of_decide_eq_true h.1.2
  omega
def NewPost (l : List Mk) (w w' : World) (po : Option Addr) : Prop :=
  Below w.heap.size w w' ∧ (trailB l = true → po = some ⟨w.heap.size, 0, none⟩ ∧ ∃ F tag iv items, TQ w' w.heap.size w.heap.size l.length F tag iv items ∧ Hold l l.length F)
structure NewI (l : List Mk) (w wr : World) (i : Nat) (F : Tri) (tag : Tag) (iv : Value) (items : List Value) : Prop where
  tq : TQ wr w.heap.size w.heap.size i F tag iv items
  hold : Hold l i F
  below : Below w.heap.size w wr
  up : upTo l i = true
  zero : i = 0 → F = F0 w.heap.size
theorem NewI.no {l : List Mk} {w wr : World} {i : Nat} {F : Tri} {tag : Tag} {iv : Value} {items : List Value} (I : NewI l w wr i F tag iv items) (hi : i < l.length) (hn : ∀ k (hk : k < i), pathLt (l[k]'(by omega)).path l[i].path = true) :
    F l[i].path = none ∨ (l[i].path = [] ∧ F [] = some ⟨w.heap.size, false, false, [], .slice none 0 0, .slice none 0 0⟩) := by
  by_cases h0 : i = 0
  · rw [I.zero h0]
    by_cases e : l[i].path = []
    · exact .inr ⟨e, F0_root _⟩
    · exact .inl (F0_else _ e)
  · refine .inl (I.hold.none hi hn fun e => ?_)
    have := hn 0 (by omega)
    rw [e] at this
    simp [pathLt] at this

set_option maxHeartbeats 4000000 in
set_option maxRecDepth 100000 in
theorem newTrail_any (l : List Mk) (v : Value) (w : World) (lo hi : Nat) (hv : McsAt w lo hi v l) (hhi : hi ≤ w.heap.size) :
    Calls Tryd.prog 25 #[v] w fun e w' => ∃ po, e = .returned (.tuple #[.pointer po, .bool (trailB l)]) ∧ NewPost l w w' po := by
  obtain ⟨a, cap, rfl⟩ : ∃ a cap, v = .slice a l.length cap := by obtain ⟨a, cap, h, _⟩ := hv; exact ⟨a, cap, h⟩
  have hl : l.length ≤ maxLen := by obtain ⟨_, _, _, h, _⟩ := hv; exact h
  unfold maxLen at hl
  by_cases h6 : (6 : Int) < (l.length : Int)
  · have HV : Hid (trailB l = false) := by show _ = _; rw [trailB, decide_eq_false (by omega)]; simp
    clear hv
    go_enter Tryd.func25, Tryd.ntmps25
    go_wp2_with fail
    go_ret2
    exact ⟨none, by rw [HV.out]; rfl, Below.refl _ _, fun h => by rw [HV.out] at h; cases h⟩
  have HM : Hid (∀ (i : Nat) (h : i < l.length), ∃ b o pa pc, a = some ⟨b, o, none⟩ ∧ (l[i].path.length ≤ pc ∧ pc ≤ maxLen) ∧ (∀ W, Below w.heap.size w W → W.cell? ⟨b, o + i * 2, none⟩ = some (.slice pa l[i].path.length pc) ∧ W.cell? ⟨b, o + i * 2 + 1, none⟩ = some (.bool l[i].sub) ∧ StrsAt W 0 w.heap.size (.slice pa l[i].path.length pc) l[i].path)) := fun i h => mcs_cell hv hhi i h
  clear hv
  have HBl : Hid (∀ (i : Nat) (h : i < l.length) b o, a = some ⟨b, o, none⟩ → b < w.heap.size) := fun i h b o e => by
    obtain ⟨b', o', pa, pc, e', _, hc⟩ := HM.out i h
    rw [e] at e'
    injection e' with e'
    injection e' with e1 _ _
    subst e1
    have h1 := (hc w (Below.refl _ _)).1
    unfold World.cell? at h1
    split at h1
    · rename_i hb
      exact (Array.getElem?_eq_some_iff.1 hb).1
    · cases h1
  have hI0 : NewI l w (w.alloc (.cells #[.bool false, .bool false, .slice none 0 0, .slice none 0 0, .slice none 0 0, .func (.func 33) #[] #[]] 64)) 0 (F0 w.heap.size) (fun _ => (0, [])) (.slice none 0 0) [] :=
    ⟨tq_zero (Blk.new w _ _) (Nat.le_refl _), hold_zero l _, (Below.refl _ _).alloc (Nat.le_refl _) _, rfl, fun _ => rfl⟩
  have HI0 := hide hI0
  clear hI0
  have HNo : Hid (∀ i, i < l.length → okAt l i = false → trailB l = false) := fun i h e => trailB_no l i h e
  have HYes : Hid (upTo l l.length = true → trailB l = true) := fun h => by rw [trailB, h, decide_eq_true (by omega)]; rfl
  go_enter Tryd.func25, Tryd.ntmps25
  go_wp2_with fail
  go_loopw [15] (fun x wr => ∃ (i : Nat) (F : Tri) (tag : Tag) (iv : Value) (items : List Value), i ≤ l.length ∧ x = .int .i64 i ∧ Hid (NewI l w wr i F tag iv items)) (fun x _ => l.length - (intOf x).toNat)
  case atStart => exact ⟨0, _, _, _, _, Nat.zero_le _, rfl, HI0⟩
  case round =>
    obtain ⟨i, F, tag, iv, items, hi1, rfl, HI⟩ := hrel
    clear HI0
    by_cases hlt : i < l.length
    · have hltI : (i : Int) < (l.length : Int) := by omega
      obtain ⟨b, o, pa, pc, rfl, hpc, hcell⟩ := HM.out i hlt
      have hbl := HBl.out i hlt b o rfl
      have HCell := hide hcell
      have HPc := hide hpc
      clear hcell hpc HBl
      obtain ⟨c0, c1, _⟩ := HCell.out wr HI.out.below
      have HA : Hid (Below wr.heap.size wr (wr.alloc (.cells #[.slice pa l[i].path.length pc, .bool l[i].sub] 31)) ∧ (wr.alloc (.cells #[.slice pa l[i].path.length pc, .bool l[i].sub] 31)).heap.size = wr.heap.size + 1 ∧ Blk (wr.alloc (.cells #[.slice pa l[i].path.length pc, .bool l[i].sub] 31)) wr.heap.size #[.slice pa l[i].path.length pc, .bool l[i].sub] 31) := ⟨(Below.refl _ _).alloc (Nat.le_refl _) _, by simp, Blk.new _ _ _⟩
      go_wp2_with fail
      generalize wr.alloc (.cells #[.slice pa l[i].path.length pc, .bool l[i].sub] 31) = W at HA ⊢
      have HWw : Hid (Below w.heap.size w W) := HI.out.below.trans (HA.out.1.mono HI.out.below.size)
      have HTW : Hid (TQ W w.heap.size w.heap.size i F tag iv items) := HI.out.tq.below HA.out.1
      have HVw : Hid (∀ V, Below W.heap.size W V → Below w.heap.size w V) := fun V hV => HWw.out.trans (hV.mono HWw.out.size)
      have HSt : Hid (∀ V, Below W.heap.size W V → StrsAt V 0 w.heap.size (.slice pa l[i].path.length pc) l[i].path) := fun V hV => (HCell.out V (HVw.out V hV)).2.2
      have HMk : Hid (∀ V, Below W.heap.size W V → Calls Tryd.prog 34 #[.agg #[.slice pa l[i].path.length pc, .bool l[i].sub]] V fun e w' => e = .returned (.bool (markQ l[i])) ∧ Below W.heap.size W w') := fun V hV =>
        (isMark_any l[i] pa pc V 0 w.heap.size (HSt.out V hV) (HVw.out V hV).size).mono fun e w' ⟨h1, h2⟩ => ⟨h1, hV.trans (h2.mono hV.size)⟩
      have HUn : Hid (l[i].path.length ≤ 4 → ∀ V, Below W.heap.size W V → Calls Tryd.prog 36 #[.pointer (some ⟨w.heap.size, 0, none⟩), .slice pa l[i].path.length pc] V fun e w' => e = .returned (.bool (!freeB l i i)) ∧ Below W.heap.size W w') := fun h4 V hV => by
        have h := under_any l[i].path pa pc V w.heap.size w.heap.size i F tag 0 w.heap.size (HTW.out.below hV).m (HSt.out V hV) HPc.out.1 (by omega)
        rw [HI.out.hold.under hlt] at h
        exact h.mono fun e w' ⟨h1, m, h2⟩ => ⟨h1, by subst h2; exact below_drewN hV _⟩
      have v0 : ∀ x : Wd (Below W.heap.size W), x.w.cell? ⟨wr.heap.size, 0, none⟩ = some (.slice pa l[i].path.length pc) := fun x => (HA.out.2.2.below x.h (by have := HA.out.2.1; omega)).cell 0 _ rfl
      have v1 : ∀ x : Wd (Below W.heap.size W), x.w.cell? ⟨wr.heap.size, 1, none⟩ = some (.bool l[i].sub) := fun x => (HA.out.2.2.below x.h (by have := HA.out.2.1; omega)).cell 1 _ rfl
      have hne : Nonempty (Wd (Below W.heap.size W)) := ⟨⟨W, Below.refl _ _⟩⟩
      have HWr : Hid (Below W.heap.size W W.drew) := (Below.refl _ _).drew
      have HAt := hide (mkAt_at l i hlt)
      have HOk : Hid (okAt l i = (markQ l[i] && (i == 0 || pathLt (mkAt l (i - 1)).path l[i].path) && freeB l i i)) := by show _ = _; rw [okAt, HAt.out]
      go_cut [44] from 20 to 43 (fun x wx => x = .bool (!okAt l i) ∧ Hid (Below W.heap.size W wx))
      case first =>
        cases hq : markQ l[i] with
        | false =>
          have HV : Hid ((!okAt l i) = true) := by show _ = _; rw [HOk.out, hq]; rfl
          rw [hq] at HMk
          refine wp_region_own (Below W.heap.size W) (by kernel_rfl) (by kernel_rfl) HWr.out ?_
          repeat (go_big_quiet_step (((go_at_call 34; exact own_call (HMk.out _ (Wd.h _))))))
          refine wpQuiet_nil ?_
          intro w1 hB1
          have HB1 := hide hB1
          clear hB1
          go_wp2_with fail
          go_meet
          exact ⟨by rw [HV.out], HB1⟩
        | true =>
          have HUn := hide (HUn.out (markQ_len hq))
          rw [hq] at HMk
          by_cases hi0 : i = 0
          · have HV : Hid ((!okAt l i) = !freeB l i i) := by show _ = _; rw [HOk.out, hq]; simp [hi0]
            have hd : decide ((0 : Int) < (i : Int)) = false := by simp; omega
            have hd' : decide (0 < i) = false := by simp; omega
            generalize freeB l i i = fb at HUn HV
            clear hi0 hq
            refine wp_region_own (Below W.heap.size W) (by kernel_rfl) (by kernel_rfl) HWr.out ?_
            repeat (go_big_quiet_step ((first | (go_at_call 34; exact own_call (HMk.out _ (Wd.h _))) | (go_at_call 36; exact own_call (HUn.out _ (Wd.h _))))))
            refine wpQuiet_nil ?_
            intro w1 hB1
            have HB1 := hide hB1
            clear hB1
            go_wp2_with fail
            go_meet
            exact ⟨by rw [HV.out], HB1⟩
          · have hd : (0 : Int) < (i : Int) := by omega
            obtain ⟨j, rfl⟩ : ∃ j, i = j + 1 := ⟨i - 1, by omega⟩
            obtain ⟨b', o', pa', pc', he, _, hcell'⟩ := HM.out j (by omega)
            simp only [Option.some.injEq, Addr.mk.injEq] at he
            obtain ⟨rfl, rfl⟩ := he.1, he.2.1
            have HCell' := hide hcell'
            have hjI : (j : Int) < (l.length : Int) := by omega
            have hy0 : ∀ x : Wd (Below W.heap.size W), x.w.cell? ⟨b, o + j * 2, none⟩ = some (.slice pa' l[j].path.length pc') := fun x => (HCell'.out x.w (HVw.out x.w x.h)).1
            have HCm : Hid (∀ V, Below W.heap.size W V → Calls Tryd.prog 35 #[.slice pa' l[j].path.length pc', .slice pa l[j + 1].path.length pc] V fun e w' => e = .returned (.int .i64 (cmpP l[j].path l[j + 1].path)) ∧ Below W.heap.size W w') := fun V hV =>
              (compare_any l[j].path l[j + 1].path _ _ V 0 w.heap.size 0 w.heap.size (HCell'.out V (HVw.out V hV)).2.2 (HSt.out V hV)).mono fun e w' ⟨h1, h2⟩ => ⟨h1, by subst h2; exact hV⟩
            have HNg := hide (cmpP_neg l[j].path l[j + 1].path)
            generalize cmpP l[j].path l[j + 1].path = cm at HCm HNg
            have HO2 : Hid (okAt l (j + 1) = (pathLt l[j].path l[j + 1].path && freeB l (j + 1) (j + 1))) := by
              show _ = _
              rw [HOk.out, hq, Nat.add_sub_cancel, mkAt_at l j (by omega)]
              simp
            clear hcell' he hq
            cases hlt2 : pathLt l[j].path l[j + 1].path with
            | false =>
              have hcm : decide (0 ≤ cm) = true := by rw [HNg.out, hlt2]; rfl
              have hcm' : 0 ≤ cm := of_decide_eq_true hcm
              have HV : Hid ((!okAt l (j + 1)) = true) := by show _ = _; rw [HO2.out, hlt2]; rfl
              clear hlt2
              refine wp_region_own (Below W.heap.size W) (by kernel_rfl) (by kernel_rfl) HWr.out ?_
              repeat (go_big_quiet_step ((first | (go_at_call 34; exact own_call (HMk.out _ (Wd.h _))) | (go_at_call 35; exact own_call (HCm.out _ (Wd.h _))))))
              refine wpQuiet_nil ?_
              intro w1 hB1
              have HB1 := hide hB1
              clear hB1
              go_wp2_with fail
              go_meet
              exact ⟨by rw [HV.out], HB1⟩
            | true =>
              have hcm : decide (0 ≤ cm) = false := by rw [HNg.out, hlt2]; rfl
              have HV : Hid ((!okAt l (j + 1)) = !freeB l (j + 1) (j + 1)) := by show _ = _; rw [HO2.out, hlt2]; rfl
              generalize freeB l (j + 1) (j + 1) = fb at HUn HV
              clear hlt2
              refine wp_region_own (Below W.heap.size W) (by kernel_rfl) (by kernel_rfl) HWr.out ?_
              repeat (go_big_quiet_step ((first | (go_at_call 34; exact own_call (HMk.out _ (Wd.h _))) | (go_at_call 35; exact own_call (HCm.out _ (Wd.h _))) | (go_at_call 36; exact own_call (HUn.out _ (Wd.h _))))))
              refine wpQuiet_nil ?_
              intro w1 hB1
              have HB1 := hide hB1
              clear hB1
              go_wp2_with fail
              go_meet
              exact ⟨by rw [HV.out], HB1⟩
      case rest =>
        obtain ⟨rfl, HB1⟩ := hcut
        clear v0 v1 c0 c1 HMk HUn hne HWr
        rename World => w1
        cases hok : okAt l i with
        | false =>
          have HV : Hid (trailB l = false ∧ NewPost l w w1 none) := ⟨HNo.out i hlt hok, HVw.out w1 HB1.out, fun h => by rw [HNo.out i hlt hok] at h; cases h⟩
          go_wp2_with fail
          go_ret2
          exact ⟨none, by rw [HV.out.1]; rfl, HV.out.2⟩
        | true =>
          have ho := hok
          rw [HOk.out, Bool.and_eq_true, Bool.and_eq_true] at ho
          have HN : Hid (∀ k (hk : k < i), pathLt (l[k]'(by omega)).path l[i].path = true) := fun k hk => HI.out.hold.next hlt (by rw [HAt.out]; exact ho.1.2) k hk
          have HAd := hide (add_any l[i].path l[i].sub pa pc w1 w.heap.size w.heap.size i F tag iv items (HTW.out.below HB1.out) (HSt.out w1 HB1.out) HPc.out.1 (by have := markQ_len ho.1.1; omega) (by rw [HI.out.hold.under hlt, ho.2]; rfl) (HI.out.hold.fresh hlt HN.out) (fun _ => HI.out.no hlt HN.out) (HI.out.hold.last hlt HN.out HTW.out.m) (by omega) HTW.out.q.len)
          have HUp : Hid (upTo l (i + 1) = true) := by show _ = _; rw [upTo_succ, HI.out.up, hok]; rfl
          have y0 := (HA.out.2.2.below HB1.out (by have := HA.out.2.1; omega)).cell 0 _ rfl
          have y1 := (HA.out.2.2.below HB1.out (by have := HA.out.2.1; omega)).cell 1 _ rfl
          clear ho
          go_wp2_with fail
          refine HAd.out.mono ?_
          rintro e w2 ⟨rfl, F', tag', iv', items', hT, hB, hg, ho, hf⟩
          have HI2 : Hid (NewI l w w2 (i + 1) F' tag' iv' items') := ⟨hT, HI.out.hold.step hlt HN.out hg ho hf, (HVw.out w1 HB1.out).trans hB, HUp.out, fun h => by omega⟩
          clear hT hB hg ho hf HAd HUp HN
          go_wp2_with fail
          go_roundw
          case rel => exact ⟨i + 1, F', tag', iv', items', by omega, by go_num, HI2⟩
          case measure => simp [intOf]; omega
    · have HV : Hid (trailB l = true ∧ NewPost l w wr (some ⟨w.heap.size, 0, none⟩)) := by
        have e : i = l.length := by omega
        subst e
        exact ⟨HYes.out HI.out.up, HI.out.below, fun _ => ⟨rfl, F, tag, iv, items, HI.out.tq, HI.out.hold⟩⟩
      go_wp2_with fail
      go_ret2
      exact ⟨_, by rw [HV.out.1]; rfl, HV.out.2⟩

end Go.Proofs.YtdonbgedhikocaaDoor
