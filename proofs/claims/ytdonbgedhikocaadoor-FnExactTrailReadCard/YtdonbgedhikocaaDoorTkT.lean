/- The specification's TrailOk. -/
import Derived.Test.YtdonbgedhikocaaDoorTkS
import Derived.Test.YtdonbgedhikocaaDoorQt
import Derived.Deep.CutRange
namespace Go.Proofs.YtdonbgedhikocaaDoor
open Go.RowKit

set_option maxHeartbeats 4000000 in
set_option maxRecDepth 100000 in
theorem specTrailOk_any (l : List Mk) (v : Value) (w : World) (lo hi : Nat) (hv : MksAt w lo hi v l) (hhi : hi ≤ w.heap.size) :
    Calls Tryd.prog 10 #[v] w fun e w' => e = .returned (.bool (trailB l)) ∧ Below w.heap.size w w' := by
  obtain ⟨a, cap, rfl⟩ : ∃ a cap, v = .slice a l.length cap := by obtain ⟨a, cap, h, _⟩ := hv; exact ⟨a, cap, h⟩
  have hl : l.length ≤ maxLen := by obtain ⟨_, _, _, h, _⟩ := hv; exact h
  unfold maxLen at hl
  have HM : Hid (∀ (i : Nat) (h : i < l.length), ∃ b o pa pc, a = some ⟨b, o, none⟩ ∧ (∀ W, Below w.heap.size w W → W.cell? ⟨b, o + i * 2, none⟩ = some (.slice pa l[i].path.length pc) ∧ W.cell? ⟨b, o + i * 2 + 1, none⟩ = some (.bool l[i].sub) ∧ StrsAt W lo hi (.slice pa l[i].path.length pc) l[i].path)) := fun i h => mks_cell hv hhi i h
  clear hv
  have HT : Hid (trailB l = (upTo l l.length && decide ((l.length : Int) ≤ 6))) := rfl
  have HNo : Hid (∀ i, i < l.length → okAt l i = false → trailB l = false) := fun i h e => trailB_no l i h e
  generalize trailB l = res at HT HNo ⊢
  go_enter Tryd.func10, Tryd.ntmps10
  go_wp2_with fail
  go_loopw [3] (fun x wr => ∃ (i : Nat), i ≤ l.length ∧ x = .int .i64 i ∧ Hid (upTo l i = true) ∧ Hid (Below w.heap.size w wr)) (fun x _ => l.length - (intOf x).toNat)
  case atStart => exact ⟨0, Nat.zero_le _, rfl, rfl, Below.refl _ _⟩
  case round =>
    obtain ⟨i, hi1, rfl, HU, HB⟩ := hrel
    by_cases hlt : i < l.length
    · have hltI : (i : Int) < (l.length : Int) := by omega
      obtain ⟨b, o, pa, pc, rfl, hcell⟩ := HM.out i hlt
      have HCell := hide hcell
      clear hcell
      have HMk : Hid (∀ W, Below w.heap.size w W → Calls Tryd.prog 19 #[.agg #[.slice pa l[i].path.length pc, .bool l[i].sub]] W fun e w' => e = .returned (.bool (markQ l[i])) ∧ Below w.heap.size w w') := fun W hW =>
        (l11MarkOk_any l[i] pa pc W lo hi (HCell.out W hW).2.2 (Nat.le_trans hhi hW.size)).mono fun e w' ⟨h1, h2⟩ => ⟨h1, hW.trans (h2.mono hW.size)⟩
      have HAt := hide (mkAt_at l i hlt)
      obtain ⟨c0, c1, _⟩ := HCell.out wr HB.out
      cases hq : markQ l[i] with
      | false =>
        have HV : Hid (res = false) := HNo.out i hlt (by rw [okAt, HAt.out, hq]; rfl)
        rw [hq] at HMk
        go_wp2_with fail
        have hx0 : ∀ x : Wd (Below w.heap.size w), x.w.cell? ⟨b, o + i * 2, none⟩ = some (.slice pa l[i].path.length pc) := fun x => (HCell.out x.w x.h).1
        have hx1 : ∀ x : Wd (Below w.heap.size w), x.w.cell? ⟨b, o + i * 2 + 1, none⟩ = some (.bool l[i].sub) := fun x => (HCell.out x.w x.h).2.1
        have hne : Nonempty (Wd (Below w.heap.size w)) := ⟨⟨wr, HB.out⟩⟩
        refine wp_region_own (Below w.heap.size w) (by kernel_rfl) (by kernel_rfl) HB.out.drew ?_
        repeat (go_big_quiet_step ((go_at_call 19; exact own_call (HMk.out _ (Wd.h _)))))
        refine wpQuiet_nil ?_
        intro w1 hB1
        have HB1 := hide hB1
        clear hB1 hx0 hx1 c0 c1
        go_wp2_with fail
        go_ret
        exact ⟨by rw [HV.out]; rfl, HB1.out⟩
      | true =>
        rw [hq] at HMk
        have HQ := hide hq
        clear hq
        have hx0 : ∀ x : Wd (Below w.heap.size w), x.w.cell? ⟨b, o + i * 2, none⟩ = some (.slice pa l[i].path.length pc) := fun x => (HCell.out x.w x.h).1
        have hx1 : ∀ x : Wd (Below w.heap.size w), x.w.cell? ⟨b, o + i * 2 + 1, none⟩ = some (.bool l[i].sub) := fun x => (HCell.out x.w x.h).2.1
        have hne : Nonempty (Wd (Below w.heap.size w)) := ⟨⟨wr, HB.out⟩⟩
        go_wp2_with fail
        go_cut [35] from 11 to 34 (fun x wx => x = .bool (!(i == 0 || pathLt (mkAt l (i - 1)).path (mkAt l i).path)) ∧ Hid (Below w.heap.size w wx))
        case first =>
          by_cases hi0 : i = 0
          · have hd : decide ((0 : Int) < (i : Int)) = false := by simp; omega
            have hd' : decide (0 < i) = false := by simp; omega
            have HV : Hid ((!(i == 0 || pathLt (mkAt l (i - 1)).path (mkAt l i).path)) = false) := by show _ = _; simp [hi0]
            clear hi0
            refine wp_region_own (Below w.heap.size w) (by kernel_rfl) (by kernel_rfl) HB.out.drew ?_
            repeat (go_big_quiet_step ((go_at_call 19; exact own_call (HMk.out _ (Wd.h _)))))
            refine wpQuiet_nil ?_
            intro w1 hB1
            have HB1 := hide hB1
            clear hB1
            go_wp2_with fail
            go_meet
            exact ⟨by rw [HV.out], HB1⟩
          · have hd : (0 : Int) < (i : Int) := by omega
            obtain ⟨j, rfl⟩ : ∃ j, i = j + 1 := ⟨i - 1, by omega⟩
            obtain ⟨b', o', pa', pc', he, hcell'⟩ := HM.out j (by omega)
            simp only [Option.some.injEq, Addr.mk.injEq] at he
            obtain ⟨rfl, rfl⟩ := he.1, he.2.1
            have HCell' := hide hcell'
            have hjI : (j : Int) < (l.length : Int) := by omega
            have hy0 : ∀ x : Wd (Below w.heap.size w), x.w.cell? ⟨b, o + j * 2, none⟩ = some (.slice pa' l[j].path.length pc') := fun x => (HCell'.out x.w x.h).1
            have HLs : Hid (∀ W, Below w.heap.size w W → Calls Tryd.prog 20 #[.slice pa' l[j].path.length pc', .slice pa l[j + 1].path.length pc] W fun e w' => e = .returned (.bool (pathLt l[j].path l[j + 1].path)) ∧ Below w.heap.size w w') := fun W hW =>
              (l11Less_any l[j].path l[j + 1].path _ _ W lo hi lo hi (HCell'.out W hW).2.2 (HCell.out W hW).2.2).mono fun e w' ⟨h1, m, h2⟩ => ⟨h1, by subst h2; exact below_drewN hW _⟩
            have HV : Hid ((!(j + 1 == 0 || pathLt (mkAt l (j + 1 - 1)).path (mkAt l (j + 1)).path)) = !pathLt l[j].path l[j + 1].path) := by
              show _ = _
              rw [Nat.add_sub_cancel, mkAt_at l j (by omega), mkAt_at l (j + 1) hlt]
              simp
            clear hcell' he
            refine wp_region_own (Below w.heap.size w) (by kernel_rfl) (by kernel_rfl) HB.out.drew ?_
            repeat (go_big_quiet_step ((first | (go_at_call 19; exact own_call (HMk.out _ (Wd.h _))) | (go_at_call 20; exact own_call (HLs.out _ (Wd.h _))))))
            refine wpQuiet_nil ?_
            intro w1 hB1
            have HB1 := hide hB1
            clear hB1
            go_wp2_with fail
            go_meet
            exact ⟨by rw [HV.out], HB1⟩
        case rest =>
          obtain ⟨rfl, HB1⟩ := hcut
          rename World => w1
          clear c0 c1 HB HMk
          cases hp : (i == 0 || pathLt (mkAt l (i - 1)).path (mkAt l i).path) with
          | false =>
            have HV : Hid (res = false) := HNo.out i hlt (by rw [okAt, HAt.out, HQ.out, ← HAt.out, hp]; rfl)
            go_wp2_with fail
            go_ret
            exact ⟨by rw [HV.out]; rfl, HB1.out⟩
          | true =>
            have HP := hide hp
            clear hp
            go_wp2_with fail
            go_loopw [4] (fun y wr => ∃ (k : Nat), k ≤ i ∧ y = .int .i64 k ∧ Hid (freeB l i k = true) ∧ Hid (Below w.heap.size w wr)) (fun y _ => i - (intOf y).toNat)
            case atStart => exact ⟨0, Nat.zero_le _, rfl, rfl, HB1⟩
            case round =>
              obtain ⟨k, hk, rfl, HF, HB2⟩ := hrel
              rename World => w2
              clear HB1
              by_cases hlk : k < i
              · have hlkI : (k : Int) < (i : Int) := by omega
                have hklI : (k : Int) < (l.length : Int) := by omega
                obtain ⟨b', o', pa', pc', he, hcell'⟩ := HM.out k (by omega)
                simp only [Option.some.injEq, Addr.mk.injEq] at he
                obtain ⟨rfl, rfl⟩ := he.1, he.2.1
                have HCell' := hide hcell'
                have hy0 : ∀ x : Wd (Below w.heap.size w), x.w.cell? ⟨b, o + k * 2, none⟩ = some (.slice pa' l[k].path.length pc') := fun x => (HCell'.out x.w x.h).1
                have hy1 : ∀ x : Wd (Below w.heap.size w), x.w.cell? ⟨b, o + k * 2 + 1, none⟩ = some (.bool l[k].sub) := fun x => (HCell'.out x.w x.h).2.1
                have HWi : Hid (∀ W, Below w.heap.size w W → Calls Tryd.prog 21 #[.slice pa l[i].path.length pc, .slice pa' l[k].path.length pc'] W fun e w' => e = .returned (.bool (preB l[k].path l[i].path)) ∧ Below w.heap.size w w') := fun W hW =>
                  (l2Within_any l[i].path l[k].path _ _ W lo hi lo hi (HCell.out W hW).2.2 (HCell'.out W hW).2.2).mono fun e w' ⟨h1, m, h2⟩ => ⟨h1, by subst h2; exact below_drewN hW _⟩
                have HAk := hide (mkAt_at l k (by omega))
                clear hcell' he
                cases hsub : l[k].sub with
                | false =>
                  rw [hsub] at hy1
                  have HN : Hid (freeB l i (k + 1) = true) := by show _ = _; rw [freeB_succ, HF.out, HAk.out, hsub]; rfl
                  go_wp2_with fail
                  refine wp_region_own (Below w.heap.size w) (by kernel_rfl) (by kernel_rfl) HB2.out.drew ?_
                  repeat (go_big_quiet_step (fail))
                  refine wpQuiet_nil ?_
                  intro w3 hB3
                  have HB3 := hide hB3
                  clear hB3
                  go_wp2_with fail
                  go_roundw
                  case rel => (repeat apply Exists.intro); exact ⟨⟨k + 1, by omega, by go_num, HN, HB3⟩, rfl⟩
                  case measure => simp [intOf]; omega
                | true =>
                  rw [hsub] at hy1
                  cases hpre : preB l[k].path l[i].path with
                  | false =>
                    have HN : Hid (freeB l i (k + 1) = true) := by show _ = _; rw [freeB_succ, HF.out, HAk.out, HAt.out, hsub, hpre]; rfl
                    rw [hpre] at HWi
                    go_wp2_with fail
                    refine wp_region_own (Below w.heap.size w) (by kernel_rfl) (by kernel_rfl) HB2.out.drew ?_
                    repeat (go_big_quiet_step ((go_at_call 21; exact own_call (HWi.out _ (Wd.h _)))))
                    refine wpQuiet_nil ?_
                    intro w3 hB3
                    have HB3 := hide hB3
                    clear hB3
                    go_wp2_with fail
                    go_roundw
                    case rel => exact ⟨k + 1, by omega, by go_num, HN, HB3⟩
                    case measure => simp [intOf]; omega
                  | true =>
                    have HV : Hid (res = false) := HNo.out i hlt (by rw [okAt, freeB_no l i k hlk (by rw [HAk.out, HAt.out, hsub, hpre]; rfl)]; simp)
                    rw [hpre] at HWi
                    go_wp2_with fail
                    refine wp_region_own (Below w.heap.size w) (by kernel_rfl) (by kernel_rfl) HB2.out.drew ?_
                    repeat (go_big_quiet_step ((go_at_call 21; exact own_call (HWi.out _ (Wd.h _)))))
                    refine wpQuiet_nil ?_
                    intro w3 hB3
                    have HB3 := hide hB3
                    clear hB3
                    go_wp2_with fail
                    go_ret
                    exact ⟨by rw [HV.out]; rfl, HB3.out⟩
              · have HO : Hid (upTo l (i + 1) = true) := by
                  have e : k = i := by omega
                  have h := HF.out
                  rw [e] at h
                  show _ = _
                  rw [upTo_succ, HU.out, okAt, HP.out, h, HAt.out, HQ.out]; rfl
                have hd : decide ((k : Int) < (i : Int)) = false := by simp; omega
                go_wp2_with fail
                go_roundw
                case rel => exact ⟨i + 1, by omega, by go_num, HO, HB2⟩
                case measure => simp [intOf]; omega
    · have HV : Hid (res = decide ((l.length : Int) ≤ 6)) := by
        have e : i = l.length := by omega
        have h := HU.out
        rw [e] at h
        show _ = _
        rw [HT.out, h]; rfl
      go_wp2_with fail
      go_ret
      exact ⟨by rw [HV.out]; rfl, HB.out⟩

end Go.Proofs.YtdonbgedhikocaaDoor
