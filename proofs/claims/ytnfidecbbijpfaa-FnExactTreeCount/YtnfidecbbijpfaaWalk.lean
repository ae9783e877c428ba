/- walkParts: it yields every part of a tree once, each with its path. -/
import Derived.Shelf.Abstract
import Derived.WalkKit
import Derived.OwnWalkIn
import Derived.TacticsInMore
import Derived.LoopIn
import Derived.Deep.RegionHeld3
import Derived.Deep.AppendLies
import Derived.Deep.RegionLaw
import Derived.Test.YtnfidecbbijpfaaProg
import Derived.Test.YtnfidecbbijpfaaWalkD
namespace Go.Proofs.Ytnfidecbbijpfaa
open Go.RowKit Go.Shelf
attribute [local go_sem] Oper.semAt_some

theorem built_before {w w1 : World} {s : ByteArray} (h : Below (w.alloc (.cells #[.string s] 9)).drew.heap.size (w.alloc (.cells #[.string s] 9)).drew w1) : Blk w1 w.heap.size #[.string s] 9 := by
  have h1 : Blk (w.alloc (.cells #[.string s] 9)).drew w.heap.size #[.string s] 9 := Blk.new w _ _
  exact h1.below h h1.lt

theorem built_before2 {w w1 : World} {s : ByteArray} (h : Below (w.drew.alloc (.cells #[.string s] 9)).heap.size (w.drew.alloc (.cells #[.string s] 9)) w1) : Blk w1 w.heap.size #[.string s] 9 := by
  have h1 : Blk (w.drew.alloc (.cells #[.string s] 9)) w.heap.size #[.string s] 9 := Blk.new w.drew _ _
  exact h1.below h h1.lt

set_option maxRecDepth 100000 in
set_option maxHeartbeats 400000000 in
theorem walk_succ (l n0 cb N : Nat) (J Jx : List Yv → World → Prop) (hcb : n0 ≤ cb) (hJ : ∀ s A B, J s A → Below A.heap.size A B → J s B) (hY : YieldC l n0 cb N J Jx) (n : Nat) (ih : WalkC l n0 cb N J Jx n) : WalkC l n0 cb N J Jx (n + 1) := by
  intro t v path pv pre W lo hi hi' hg hp hhi hpath hhi' hsm hsz hJ0 hN
  have hgood := hg.1
  have hkg := hg.2
  rcases hp with ⟨hd, b, rfl, hb1, hb2, hb⟩ | ⟨hd, b, rfl, hb1, hb2, nvp, kvp, hb, hNm, hK⟩
  · obtain ⟨pa, pc, rfl, _⟩ := hpath
    have hn := hgood.file hd
    have hk0 : t.kids = [] := List.eq_nil_of_length_eq_zero (by rw [← hgood.len, hn]; rfl)
    have hc0 : countT (n + 1) t = 0 := by show t.kids.length + (t.kids.map (countT n)).sum = 0; rw [hk0]; rfl
    rw [hc0] at hN ⊢
    have hq := walkFile_in Fence.wide rfl trivial rfl 1 l b pa path.length pc W (fun W' => J (pre ++ [(pa, path.length, pc, .iface 67 (.pointer (some ⟨b, 0, none⟩)))]) W' ∧ Kp n0 cb W W') (fun W' => Jx (pre ++ [(pa, path.length, pc, .iface 67 (.pointer (some ⟨b, 0, none⟩)))]) W')
      ((hY 0 pre (pa, path.length, pc, .iface 67 (.pointer (some ⟨b, 0, none⟩))) W hJ0 (by omega)).mono (fun e W' h => h))
    refine (callsIn_wide (n := 1)).1 (hq.mono fun e W' h => ?_)
    rcases h with ⟨h1, h2, h3⟩ | ⟨h1, h2⟩
    · refine .inl ⟨h1, _, h2, rfl, ?_, h3⟩
      unfold numY
      by_cases h0 : 0 < path.length <;> simp [h0]
    · exact .inr ⟨h1, _, h2⟩
  · obtain ⟨pa, pc, rfl, hpl, hps, _⟩ := id hpath
    obtain ⟨na, nc, rfl, hnl, hns, hnc⟩ := id hNm
    obtain ⟨ka, kc, rfl, hkl, hkc⟩ := hK
    unfold maxLen at hpl hnl hkl
    have hlen := hgood.len
    obtain ⟨fn, tmps, assign, body, hy, hR⟩ := (hY 0 pre (pa, path.length, pc, .iface 45 (.pointer (some ⟨b, 0, none⟩))) W hJ0 (by omega)).mono (R' := fun e W2 =>
      (e = .returned (.bool true) ∧ W2.cell? ⟨b, 1, none⟩ = some (.slice na t.names.length nc) ∧ Hid (J (pre ++ [(pa, path.length, pc, .iface 45 (.pointer (some ⟨b, 0, none⟩)))]) W2) ∧ Hid (Kp n0 cb W W2)) ∨ (e = .returned (.bool false) ∧ Hid (Jx (pre ++ [(pa, path.length, pc, .iface 45 (.pointer (some ⟨b, 0, none⟩)))]) W2)))
      (fun e W2 h => h.elim (fun ⟨h1, h2, h3⟩ => .inl ⟨h1, (h3.below.cell (p := ⟨b, 1, none⟩) (by show b < n0; omega)).trans (hb.cell 1 _ rfl), hide h2, hide h3⟩) (fun ⟨h1, h2⟩ => .inr ⟨h1, hide h2⟩))
    have hdd : ∀ k : Nat, (Fence.wide.depth.isSome = true → 1 ≤ k) := fun k h => by cases h
    have t1 := ta_dd
    have HL := hide hlen
    have HB := hide hb
    have HPa := hide hpath
    have HKc := hide hkc
    have HNc := hide hnc
    have HNs := hide hns
    have HI := hide ih
    have HKg := hide hkg
    have HPs := hide hps
    have HJ := hide hJ
    have HUA : Hid (uptoK n t.kids t.kids.length = countT (n + 1) t) := uptoK_all n t
    have HUL : Hid (∀ k, k ≤ t.kids.length → uptoK n t.kids k ≤ countT (n + 1) t) := uptoK_le n t
    have HU : Hid (∀ k (h : k < t.kids.length), uptoK n t.kids (k + 1) = uptoK n t.kids k + (countT n t.kids[k] + 1)) := uptoK_succ n t.kids
    dsimp only [Yv.encs] at hy
    clear hlen hb hpath hkc hnc hns ih hkg hg hgood hd hps hJ hJ0 hY hNm
    have HP1 : Hid (numY [(pa, path.length, pc, Value.iface 45 (.pointer (some ⟨b, 0, none⟩)))] = if 0 < path.length then 1 else 0) := by
      show numY _ = _
      unfold numY
      by_cases h0 : 0 < path.length <;> simp [h0]
    generalize countT (n + 1) t = ct at hsm hN HUA HUL ⊢
    generalize (if 0 < path.length then 1 else 0) = pp at HP1 ⊢
    refine (callsIn_wide (n := 1)).1 (callsIn_of_wp Try.func39 rfl trivial ?_ rfl)
    simp only [Try.ntmps39, List.size_toArray, List.length_cons, List.length_nil, Nat.reduceAdd, Nat.reduceSub, Array.replicate_succ, Array.replicate_zero, List.push_toArray, List.append_toArray, List.nil_append, List.cons_append]
    gi_wp2_with ((try refine ⟨hdd _, ?_⟩); refine hR.mono ?_; clear hR; rintro e W2 (⟨rfl, x1, HJ2, HK2⟩ | ⟨rfl, HX2⟩))
    · refine wpIn_wide.2 ?_
      go_loopw [24] (fun i wr => ∃ (k : Nat) (ys : List Yv), k ≤ t.names.length ∧ i = .int .i64 k ∧ Hid (J (pre ++ ys) wr ∧ ys.length = 1 + uptoK n t.kids k ∧ numY ys = pp + uptoK n t.kids k ∧ Kp n0 cb W wr)) (fun i _ => t.names.length - (intOf i).toNat)
      case atStart => exact ⟨0, [_], Nat.zero_le _, rfl, HJ2.out, rfl, HP1.out, HK2.out⟩
      case round =>
        obtain ⟨k, ys, hk, rfl, HInv⟩ := hrel
        clear x1 HJ2 HK2 HP1
        by_cases hlt : k < t.names.length
        · have hltK : k < t.kids.length := by rw [← HL.out]; exact hlt
          obtain ⟨nb, no, rfl, hnb1, hnb2, hncell⟩ := HNc.out (by omega)
          obtain ⟨kb, ko, rfl, hkb1, hkb2, hkcell⟩ := HKc.out (by omega)
          obtain ⟨pv, hcp, hrp⟩ := hkcell k hltK
          have HBl : Hid (Below n0 W wr) := HInv.out.2.2.2.below
          have hcn : wr.cell? ⟨nb, no + k, none⟩ = some (.string t.names[k]) := (HBl.out.cell (p := ⟨nb, _, none⟩) (by show nb < n0; omega)).trans (hncell k hlt)
          rw [← HBl.out.cell (p := ⟨kb, _, none⟩) (by show kb < n0; omega)] at hcp
          have y2 : wr.cell? ⟨b, 2, none⟩ = some (.slice (some ⟨kb, ko, none⟩) t.kids.length kc) := (HBl.out.cell (p := ⟨b, 2, none⟩) (by show b < n0; omega)).trans (HB.out.cell 2 _ rfl)
          have HP : Hid (PRep wr lo hi n t.kids[k] pv) := PRep.same (sameIn_below HBl.out hhi) n _ _ hrp
          obtain ⟨pu, pb, rfl⟩ := HP.out.form
          have hltI : (k : Int) < (t.names.length : Int) := by omega
          have hltKI : (k : Int) < (t.kids.length : Int) := by omega
          have HSz : Hid (cb < wr.heap.size ∧ hi' ≤ wr.heap.size) := ⟨Nat.lt_of_lt_of_le hsz HBl.out.size, Nat.le_trans hhi' HBl.out.size⟩
          have HPr : Hid (StrsAt wr (cb + 1) hi' (.slice pa path.length pc) path) := HPa.out.kp (by omega) HInv.out.2.2.2
          have HCN : Hid (∀ W', Below wr.heap.size wr W' → Calls Try.prog 42 #[.slice pa path.length pc] W' fun e w' => ∃ a cap, e = .returned (.slice a path.length cap) ∧ w'.ownsRow W'.heap.size 9 1 (.slice a path.length cap) path.length (path.map .string) ∧ Below W'.heap.size W' w') := fun W' hW =>
            copyNames_row path _ W' (cb + 1) hi' (HPr.out.keep hW HSz.out.2) (by omega)
          have HC : Hid (∀ w2 a cap base, Below wr.heap.size wr w2 → cb + 1 ≤ base → w2.ownsRow base 9 1 (.slice a (path.length + 1) cap) (path.length + 1) (path.map .string ++ [.string t.names[k]]) → Calls Try.prog 39 #[.iface pu (.pointer (some ⟨pb, 0, none⟩)), .slice a (path.length + 1) cap, .func (.yield l) #[] #[]] w2 fun e w3 =>
              ∃ r : Bool, e = .returned (.bool r) ∧ (r = true → ∃ ys', J (pre ++ ys') w3 ∧ ys'.length = 1 + uptoK n t.kids (k + 1) ∧ numY ys' = pp + uptoK n t.kids (k + 1) ∧ Kp n0 cb W w3) ∧ (r = false → ∃ q, Jx (pre ++ q) w3)) := fun w2 a cap base hb2 hba hrow => by
            have hul := HUL.out (k + 1) hltK
            have hu := HU.out k hltK
            obtain ⟨i1, i2, i3, i4⟩ := HInv.out
            have hst : StrsAt w2 base w2.heap.size (.slice a (path.length + 1) cap) (path ++ [t.names[k]]) := strsAt_of_row (by simpa using hrow) (by simp) (by simp; unfold maxLen; omega) (fun i hi => by
              rw [List.getElem_append]
              split
              · exact HPs.out _ _
              · simp; exact HNs.out k hlt)
            refine (HI.out t.kids[k] _ (path ++ [t.names[k]]) _ (pre ++ ys) w2 lo hi w2.heap.size (HKg.out k hltK) (PRep.same (sameIn_below hb2 (by have := HSz.out.1; omega)) n _ _ HP.out) hhi (hst.wide hba (Nat.le_refl _)) (Nat.le_refl _) (by simp; omega) (Nat.lt_of_lt_of_le HSz.out.1 hb2.size) (HJ.out _ _ _ i1 hb2) (by simp; omega)).mono ?_
            rintro e w3 (⟨h1, ys2, g1, g2, g3, g4⟩ | ⟨h1, q, g1⟩)
            · refine ⟨true, h1, fun _ => ⟨ys ++ ys2, by rw [← List.append_assoc]; exact g1, by simp; omega, ?_, (i4.trans (Kp.of_below hb2 (by have := HSz.out.1; omega))).trans g4⟩, fun h => by cases h⟩
              rw [numY_append, i3, g3]
              simp
              omega
            · exact ⟨false, h1, fun h => (by cases h), fun _ => ⟨ys ++ q, by rw [← List.append_assoc]; exact g1⟩⟩
          obtain ⟨iS, hiS', hzS, hsS, hbS⟩ := info_S
          have hiS := hide hiS'
          have hbz : b < wr.heap.size := by have := HSz.out.1; omega
          have hkbz : kb < wr.heap.size := by have := HSz.out.1; omega
          have y2o : ∀ o, (wr.alloc o).cell? ⟨b, 2, none⟩ = some (.slice (some ⟨kb, ko, none⟩) t.kids.length kc) := fun o => ((Below.refl wr.heap.size wr).alloc (Nat.le_refl _) o).cell (p := ⟨b, 2, none⟩) hbz |>.trans y2
          have hcpo : ∀ o, (wr.alloc o).cell? ⟨kb, ko + k, none⟩ = some (.iface pu (.pointer (some ⟨pb, 0, none⟩))) := fun o => ((Below.refl wr.heap.size wr).alloc (Nat.le_refl _) o).cell (p := ⟨kb, ko + k, none⟩) hkbz |>.trans hcp
          clear hiS' hkcell hncell hrp
          go_wp2_with fail
          go_region_law (first
            | (rw [if_pos (by simp [Region.wanted])]
               go_simp
               go_at_call 42
               refine (HCN.out _ (by repeat (first | exact Below.refl _ _ | refine Below.drew ?_ | refine Below.alloc ?_ (by simp <;> omega) _))).mono ?_
               rintro e1 w1 ⟨a1, c1, rfl, hO1, hB1⟩
               obtain ⟨bs, hbs1, hbs2, hO2⟩ : ∃ bs, wr.heap.size ≤ bs ∧ bs ≤ w1.heap.size ∧ w1.ownsRow bs 9 1 (.slice a1 path.length c1) path.length (path.map .string) := ⟨_, by simp, hB1.size, hO1⟩
               have HOwn := hide hO2
               have HOwno : Hid (∀ o, (w1.alloc o).ownsRow bs 9 1 (.slice a1 path.length c1) path.length (path.map .string)) := fun o => hO2.alloc o
               have HLt : Hid (∀ k, (Value.slice a1 path.length c1).ownBlock = some k → wr.heap.size ≤ k) := fun k h => Nat.le_trans hbs1 (hO2.lt k h).1
               clear hO2
               have HBw : Hid (Below wr.heap.size wr w1) := Below.trans (by repeat (first | exact Below.refl _ _ | refine Below.drew ?_ | refine Below.alloc ?_ (by simp <;> omega) _)) (hB1.mono (by simp <;> omega))
               first
                 | (with_reducible have hbk0 := built_before hB1
                    have HBk := hide hbk0
                    clear hbk0)
                 | (with_reducible have hbk0 := built_before2 hB1
                    have HBk := hide hbk0
                    clear hbk0)
                 | skip
               have hw1z : wr.heap.size ≤ w1.heap.size := HBw.out.size
               have y2p : w1.cell? ⟨b, 2, none⟩ = some (.slice (some ⟨kb, ko, none⟩) t.kids.length kc) := (HBw.out.cell (p := ⟨b, 2, none⟩) hbz).trans y2
               have hcpp : w1.cell? ⟨kb, ko + k, none⟩ = some (.iface pu (.pointer (some ⟨pb, 0, none⟩))) := (HBw.out.cell (p := ⟨kb, ko + k, none⟩) hkbz).trans hcp
               have y2q : ∀ o, (w1.alloc o).cell? ⟨b, 2, none⟩ = some (.slice (some ⟨kb, ko, none⟩) t.kids.length kc) := fun o => ((HBw.out.alloc hw1z o).cell (p := ⟨b, 2, none⟩) hbz).trans y2
               have hcpq : ∀ o, (w1.alloc o).cell? ⟨kb, ko + k, none⟩ = some (.iface pu (.pointer (some ⟨pb, 0, none⟩))) := fun o => ((HBw.out.alloc hw1z o).cell (p := ⟨kb, ko + k, none⟩) hkbz).trans hcp
               clear hO1 hB1)
            | (rw [if_pos (by simp [Region.wanted])]
               go_simp
               go_at_call 39
               refine (HC.out w2 _ _ bs HB2.out (by have := HSz.out.1; omega) HOWN.out).mono ?_
               rintro e3 w3 ⟨r, rfl, hT3, hF3⟩
               have HT3 := hide hT3
               have HF3 := hide hF3
               clear hT3 hF3)
            | (have hnews : ∀ j u, [Value.string t.names[k]][j]? = some u → w1.cell? ((⟨wr.heap.size, 0, none⟩ : Addr).add j) = some u := World.news_of_block HBk.out
               refine step_append_lies _ rfl (.tmp 37) (.tmp 39) 22 rfl bs 9 iS (.string ⟨#[]⟩) 1 16 Try.underlying22 hiS.out hzS hsS hbS rfl (by decide) (.slice a1 path.length c1) path.length (path.map .string) ?_ HOwn.out ⟨wr.heap.size, 0, none⟩ 1 1 [.string t.names[k]] ?_ rfl hnews ?_ (by decide) ?_ ?_ hbs2 _ rfl ?_
               · (first | (simp [Act.eval]; done) | (simp [Act.eval, Act.put]; done) | (go_simp; done))
               · (first | (simp [Act.eval]; done) | (simp [Act.eval, Act.put]; done) | (go_simp; done))
               · simp [Value.oneCell']
               · unfold maxLen; omega
               · omega
               intro g cap w2 hown hgrow hat hgl
               have HOWN := hide hown
               have HB2 : Hid (Below wr.heap.size wr w2) := HBw.out.grown hgrow (hw1z) HLt.out
               have y2r : w2.cell? ⟨b, 2, none⟩ = some (.slice (some ⟨kb, ko, none⟩) t.kids.length kc) := (HB2.out.cell (p := ⟨b, 2, none⟩) hbz).trans y2
               have hcpr : w2.cell? ⟨kb, ko + k, none⟩ = some (.iface pu (.pointer (some ⟨pb, 0, none⟩))) := (HB2.out.cell (p := ⟨kb, ko + k, none⟩) hkbz).trans hcp
               clear hown hgrow hat hnews)
            | (fail_if_success have hq := HBk.out
               have hnews : ∀ j u, [Value.string t.names[k]][j]? = some u → (w1.alloc (.cells #[.string t.names[k]] 9)).cell? ((⟨w1.heap.size, 0, none⟩ : Addr).add j) = some u := World.news_of_block (heap_alloc_new w1 _)
               refine step_append_lies _ rfl (.tmp 37) (.tmp 39) 22 rfl bs 9 iS (.string ⟨#[]⟩) 1 16 Try.underlying22 hiS.out hzS hsS hbS rfl (by decide) (.slice a1 path.length c1) path.length (path.map .string) ?_ (HOwno.out _) ⟨w1.heap.size, 0, none⟩ 1 1 [.string t.names[k]] ?_ rfl hnews ?_ (by decide) ?_ ?_ ?_ _ rfl ?_
               · (first | (simp [Act.eval]; done) | (simp [Act.eval, Act.put]; done) | (go_simp; done))
               · (first | (simp [Act.eval]; done) | (simp [Act.eval, Act.put]; done) | (go_simp; done))
               · simp [Value.oneCell']
               · unfold maxLen; omega
               · omega
               · simp; omega
               intro g cap w2 hown hgrow hat hgl
               have HOWN := hide hown
               have HB2 : Hid (Below wr.heap.size wr w2) := (HBw.out.alloc hw1z _).grown hgrow (by simp; omega) HLt.out
               have y2r : w2.cell? ⟨b, 2, none⟩ = some (.slice (some ⟨kb, ko, none⟩) t.kids.length kc) := (HB2.out.cell (p := ⟨b, 2, none⟩) hbz).trans y2
               have hcpr : w2.cell? ⟨kb, ko + k, none⟩ = some (.iface pu (.pointer (some ⟨pb, 0, none⟩))) := (HB2.out.cell (p := ⟨kb, ko + k, none⟩) hkbz).trans hcp
               clear hown hgrow hat))
          all_goals
            cases r with
            | false =>
              obtain ⟨q, hq⟩ := HF3.out rfl
              have HQ := hide hq
              clear hq HT3 HF3
              go_wp2_with fail
              go_ret
              exact .inr ⟨rfl, q, HQ.out⟩
            | true =>
              obtain ⟨ys', hq⟩ := HT3.out rfl
              have HQ := hide hq
              clear hq HT3 HF3
              go_wp2_with fail
              go_roundw
              case rel => exact ⟨k + 1, ys', by omega, by go_num, HQ.out⟩
              case measure => simp [intOf]; omega
        · have hke : k = t.kids.length := by have := HL.out; omega
          have HKe := hide hke
          clear hke
          go_wp2_with fail
          gi_wp2
          go_ret
          obtain ⟨i1, i2, i3, i4⟩ := HInv.out
          have hua := HUA.out
          rw [← HKe.out] at hua
          exact .inl ⟨rfl, ys, i1, by omega, by omega, i4⟩
    · go_ret
      exact .inr ⟨rfl, _, HX2.out⟩

theorem walk_all : WalkAll := fun l n0 cb N J Jx hcb hJ hY n => by
  induction n with
  | zero => exact fun t => Empty.elim (show Empty from t)
  | succ n ih => exact walk_succ l n0 cb N J Jx hcb hJ hY n ih

end Go.Proofs.Ytnfidecbbijpfaa
