/- The program's intake of a directory: names and kids one by one, as long as there is room. -/
import Derived.Test.YtifbbbgcdklaaaaLow
import Derived.Test.YtifbbbgcdklaaaaProg
import Derived.Test.YtifbbbgcdklaaaaDirInv
import Derived.RegionTactic
import Derived.BigRegion
import Derived.Maps.AppendAt
namespace Go.Proofs.Ytifbbbgcdklaaaa
open Go.RowKit

theorem takeB_dir (n : Nat) (mode : Int) (data : ByteArray) (names : List ByteArray) (kids : List (T n)) (d room : Int) (hd : d ≤ 4) :
    takeB (n + 1) ⟨true, mode, data, names, kids⟩ d room = (modeB mode && data.toList.isEmpty && ((names.length : Int) == (kids.length : Int)) && namesB names && kids.all (fun k => partsB n k (d + 1)) && decide (((kids.length + (kids.map (countT n)).sum : Nat) : Int) ≤ room)) := by
  show (plainB true mode data names kids.length && decide (d ≤ 4) && kids.all (fun k => partsB n k (d + 1)) && decide (((kids.length + (kids.map (countT n)).sum : Nat) : Int) ≤ room)) = _
  rw [plainB, isEmpty_size, Bool.eq_iff_iff]
  simp only [Bool.and_eq_true, decide_eq_true_eq, beq_iff_eq, if_true]
  constructor
  · rintro ⟨⟨⟨⟨⟨h1, h2⟩, h3, h4⟩, _⟩, h5⟩, h6⟩
    exact ⟨⟨⟨⟨⟨h1, h4⟩, by omega⟩, h3⟩, h5⟩, h6⟩
  · rintro ⟨⟨⟨⟨⟨h1, h4⟩, h2⟩, h3⟩, h5⟩, h6⟩
    exact ⟨⟨⟨⟨⟨h1, by omega⟩, h3, h4⟩, hd⟩, h5⟩, h6⟩

/-- A kid that is not taken: the directory is not. -/
theorem take_no {n : Nat} {mode : Int} {data : ByteArray} {names : List ByteArray} {kids : List (T n)} {d room : Int} {k : Nat} (_hm : Hid (modeB mode = true)) (hlt : k < kids.length) (h : takeB n kids[k] (d + 1) (room - kids.length - countTo n kids k) = false) :
    (modeB mode && data.toList.isEmpty && ((names.length : Int) == (kids.length : Int)) && namesB names && kids.all (fun k => partsB n k (d + 1)) && decide (((kids.length + (kids.map (countT n)).sum : Nat) : Int) ≤ room)) = false := by
  rw [takeB, Bool.and_eq_false_iff] at h
  rcases h with h | h
  · rw [show kids.all (fun k => partsB n k (d + 1)) = false from List.all_eq_false.2 ⟨kids[k], List.getElem_mem hlt, by simp [h]⟩]; simp
  · have h1 : ¬ ((countT n kids[k] : Int) ≤ room - kids.length - countTo n kids k) := by simpa using h
    have h2 := sum_take_le (countT n) kids (k + 1)
    have h3 := countTo_succ n kids k hlt
    unfold countTo at h3 h1
    rw [show decide (((kids.length + (kids.map (countT n)).sum : Nat) : Int) ≤ room) = false by simp; omega]; simp

theorem info_P : ∃ i, Try.prog.info? 73 = some i ∧ i.zero = some .nilIface ∧ i.size = 1 ∧ i.bytes = 16 := by
  obtain ⟨i, hi, h⟩ := Option.map_eq_some_iff.1 (show (Try.prog.info? 73).map (fun i => (i.zero, i.size, i.bytes)) = some (some .nilIface, 1, 16) by kernel_rfl)
  simp only [Prod.mk.injEq] at h
  exact ⟨i, hi, h.1, h.2.1, h.2.2⟩

set_option maxHeartbeats 4000000 in
set_option maxRecDepth 100000 in
theorem dir_of_part (n : Nat) (ih : PartC n) : DirC (n + 1) := by
  intro t hdir nv kv d room ib w lo hi hrep hhi hib h0 h4 hr0 hr30
  obtain ⟨dir, mode, data, names, kids⟩ := t
  have hdir : dir = true := hdir
  subst hdir
  have hslices := hrep.slices
  obtain ⟨xa, xm, xc, ya, ym, yc, rfl, rfl⟩ := hslices
  obtain ⟨_, _, ⟨a1, c1, hn1, hnl, hns, hnc⟩, ⟨a2, c2, hk1, hkl, hkc⟩⟩ := hrep
  simp only [Value.slice.injEq] at hn1 hk1
  obtain ⟨rfl, rfl, rfl⟩ := hn1
  obtain ⟨rfl, rfl, rfl⟩ := hk1
  obtain ⟨iS, hiS', hzS, hsS, hbS⟩ := info_S
  obtain ⟨iP, hiP', hzP, hsP, hbP⟩ := info_P
  have hiS := hide hiS'
  have hiP := hide hiP'
  clear hiS' hiP'
  have HT : Hid (takeB (n + 1) ⟨true, mode, data, names, kids⟩ d room = (modeB mode && data.toList.isEmpty && ((names.length : Int) == (kids.length : Int)) && namesB names && kids.all (fun k => partsB n k (d + 1)) && decide (((kids.length + (kids.map (countT n)).sum : Nat) : Int) ≤ room))) :=
    takeB_dir n mode data names kids d room h4
  have HCn : Hid (countT (n + 1) ⟨true, mode, data, names, kids⟩ = kids.length + (kids.map (countT n)).sum) := rfl
  have HI : Hid (PartC n) := ih
  have HIB : Hid (Blk w ib #[.int .i64 room] 69) := hib
  have HNs : Hid (∀ (i : Nat) (h : i < names.length), names[i].size ≤ maxLen) := hns
  have HNc : Hid (0 < names.length → ∃ b o, xa = some ⟨b, o, none⟩ ∧ lo ≤ b ∧ b < hi ∧ ∀ (i : Nat) (h : i < names.length), w.cell? ⟨b, o + i, none⟩ = some (.string names[i])) := hnc
  have HKc : Hid (0 < kids.length → ∃ b o, ya = some ⟨b, o, none⟩ ∧ lo ≤ b ∧ b < hi ∧ ∀ (i : Nat) (h : i < kids.length), ∃ nv kv,
      w.cell? ⟨b, o + i * 5, none⟩ = some (.bool (headT n kids[i]).1) ∧ w.cell? ⟨b, o + i * 5 + 1, none⟩ = some (.int .i64 (headT n kids[i]).2.1) ∧
      w.cell? ⟨b, o + i * 5 + 2, none⟩ = some (.string (headT n kids[i]).2.2) ∧ w.cell? ⟨b, o + i * 5 + 3, none⟩ = some nv ∧ w.cell? ⟨b, o + i * 5 + 4, none⟩ = some kv ∧ Rep w lo hi n kids[i] nv kv) := hkc
  have hibl := hib.lt
  have HAs : Hid (∀ o, Aside ib w (w.alloc o)) := fun o => (Aside.refl _ _).alloc o
  have hr := hib.cell 0 _ rfl
  have hrf := hib.frozen 0
  clear ih hib hns hnc hkc
  have hnl : names.length ≤ maxLen := hnl
  have hkl : kids.length ≤ maxLen := hkl
  unfold maxLen at hnl hkl
  show Calls Try.prog 38 #[.pointer (some ⟨ib, 0, none⟩), .agg #[.bool true, .int .i64 mode, .string data, .slice xa names.length xc, .slice ya kids.length yc], .int .i64 d] w _
  generalize takeB (n + 1) ⟨true, mode, data, names, kids⟩ d room = tb at HT ⊢
  generalize countT (n + 1) ⟨true, mode, data, names, kids⟩ = cn at HCn ⊢
  generalize hW : w.alloc (Obj.cells #[.bool true, .int .i64 mode, .string data, .slice xa names.length xc, .slice ya kids.length yc] 34) = W
  have HW : Hid (w.alloc (Obj.cells #[.bool true, .int .i64 mode, .string data, .slice xa names.length xc, .slice ya kids.length yc] 34) = W) := hW
  clear hW
  cases hm : (decide (0 ≤ mode) && decide (mode ≤ 7)) with
  | false =>
    have HTB : Hid (tb = false) := by show _ = _; rw [HT.out, modeB, hm]; rfl
    have HM : Hid (∀ u, Calls Try.prog 40 #[.int .i64 mode] u fun e w' => e = .returned (.bool false) ∧ w' = u) := fun u => by have := isMode_any mode u; rwa [hm] at this
    clear hm
    go_enter Try.func38, Try.ntmps38
    go_wp2
    go_quiet ((go_at_call 40; exact Calls.quiet_of_same (HM.out _)))
    go_wp2
    go_ret2
    exact ⟨none, by rw [HTB.out]; rfl, (HAs.out _).drewN _, fun h => by rw [HTB.out] at h; cases h⟩
  | true =>
    have HMB : Hid (modeB mode = true) := hm
    have HM : Hid (∀ u, Calls Try.prog 40 #[.int .i64 mode] u fun e w' => e = .returned (.bool true) ∧ w' = u) := fun u => by have := isMode_any mode u; rwa [hm] at this
    clear hm
    cases hde : data.toList.isEmpty with
    | false =>
      have HTB : Hid (tb = false) := by show _ = _; rw [HT.out, hde, HMB.out]; rfl
      go_enter Try.func38, Try.ntmps38
      go_wp2
      go_quiet ((go_at_call 40; exact Calls.quiet_of_same (HM.out _)))
      go_wp2
      go_ret2
      exact ⟨none, by rw [HTB.out]; rfl, (HAs.out _).drewN _, fun h => by rw [HTB.out] at h; cases h⟩
    | true =>
      cases hln : ((names.length : Int) == (kids.length : Int)) with
      | false =>
        have HTB : Hid (tb = false) := by show _ = _; rw [HT.out, hde, HMB.out, hln]; rfl
        have hbn : ((names.length : Int) != (kids.length : Int)) = true := by rw [bne, hln]; rfl
        clear hln
        go_enter Try.func38, Try.ntmps38
        go_wp2
        go_quiet ((go_at_call 40; exact Calls.quiet_of_same (HM.out _)))
        go_wp2
        go_ret2
        exact ⟨none, by rw [HTB.out]; rfl, (HAs.out _).drewN _, fun h => by rw [HTB.out] at h; cases h⟩
      | true =>
        have hbn : ((names.length : Int) != (kids.length : Int)) = false := by rw [bne, hln]; rfl
        have HLN : Hid (names.length = kids.length) := by
          have : (names.length : Int) = (kids.length : Int) := by simpa using hln
          show _ = _
          omega
        clear hln
        cases hrm : decide (room < (kids.length : Int)) with
        | true =>
          have hrm' : room < (kids.length : Int) := by simpa using hrm
          have HTB : Hid (tb = false) := by
            show _ = _
            rw [HT.out, show decide (((kids.length + (kids.map (countT n)).sum : Nat) : Int) ≤ room) = false by simp; omega]; simp
          go_enter Try.func38, Try.ntmps38
          go_wp2
          go_quiet ((go_at_call 40; exact Calls.quiet_of_same (HM.out _)))
          go_wp2
          go_ret2
          exact ⟨none, by rw [HTB.out]; rfl, (HAs.out _).drewN _, fun h => by rw [HTB.out] at h; cases h⟩
        | false =>
          have hrm' : (kids.length : Int) ≤ room := by simpa using hrm
          go_enter Try.func38, Try.ntmps38
          go_wp2
          go_quiet ((go_at_call 40; exact Calls.quiet_of_same (HM.out _)))
          go_wp2
          go_region
          go_wp2
          generalize hW1 : ((((w.alloc (Obj.cells #[.bool true, .int .i64 mode, .string data, .slice xa names.length xc, .slice ya kids.length yc] 34)).drewN (nq + 1)).setCell ⟨ib, 0, none⟩ (.int .i64 (room - kids.length))).alloc (Obj.cells #[.int .i64 mode, .slice none 0 0, .slice none 0 0] 82)) = W1
          have HI0 : Hid (InvD n mode #[.bool true, .int .i64 mode, .string data, .slice xa names.length xc, .slice ya kids.length yc] names kids d room ib w 0 W1 (.slice none 0 0) (.slice none 0 0) [] (fun _ => 0) (fun _ => 0)) := by
            subst hW1
            exact InvD.start n mode _ names kids d room ib w (nq + 1) HIB.out hrm'
          clear hW1
          go_loopw [58] (fun i wr => ∃ (k : Nat) (nvv kvv : Value) (pvs : List Value) (s e : Nat → Nat), k ≤ kids.length ∧ i = .int .i64 k ∧ Hid (InvD n mode #[.bool true, .int .i64 mode, .string data, .slice xa names.length xc, .slice ya kids.length yc] names kids d room ib w k wr nvv kvv pvs s e)) (fun i _ => kids.length - (intOf i).toNat)
          case atStart => exact ⟨0, _, _, _, _, _, Nat.zero_le _, rfl, HI0⟩
          case round =>
            obtain ⟨k, nvv, kvv, pvs, s, e, hk, rfl, I⟩ := hrel
            clear HI0 hr hrf
            have x3 : wr.cell? ⟨w.heap.size, 3, none⟩ = some (.slice xa names.length xc) := I.out.box_.cell 3 _ rfl
            have x4 : wr.cell? ⟨w.heap.size, 4, none⟩ = some (.slice ya kids.length yc) := I.out.box_.cell 4 _ rfl
            have HBl : Hid (Below hi w wr) := I.out.aside.toBelow hhi (by omega)
            by_cases hlt : k < kids.length
            · have hltn : k < names.length := by rw [HLN.out]; exact hlt
              have hltn' : (k : Int) < (names.length : Int) := by omega
              have hltk' : (k : Int) < (kids.length : Int) := by omega
              obtain ⟨b, o, rfl, hb1, hb2, hcell⟩ := HNc.out (by omega)
              obtain ⟨b', o', rfl, hb1', hb2', hcell'⟩ := HKc.out (by omega)
              have hck := hcell k hltn
              rw [← HBl.out.cell (p := ⟨b, _, none⟩) (by show b < hi; omega)] at hck
              obtain ⟨nvk, kvk, c0, c1, c2, c3, c4, hrk⟩ := hcell' k hlt
              have HR : Hid (Rep wr lo hi n kids[k] nvk kvk) := Rep.keep HBl.out (Nat.le_refl _) n _ _ _ hrk
              rw [← HBl.out.cell (p := ⟨b', _, none⟩) (by show b' < hi; omega)] at c0 c1 c2 c3 c4
              have HCl : Hid (∀ (i : Nat) (h : i < names.length), wr.cell? ⟨b, o + i, none⟩ = some (.string names[i])) := fun i h => by
                rw [HBl.out.cell (p := ⟨b, _, none⟩) (by show b < hi; omega)]; exact hcell i h
              clear hcell hcell' hrk HNc HKc
              have HNm : Hid (∀ u, Calls Try.prog 47 #[.string names[k]] u fun e w' => e = .returned (.bool (nameB names[k])) ∧ w' = u) := fun u => isName_any _ u (HNs.out k hltn)
              cases hnb : nameB names[k] with
              | false =>
                have HTB : Hid (tb = false) := by
                  show _ = _
                  rw [HT.out, show namesB names = false from range_all_no _ _ k hltn (by rw [nameAt, getD_at _ _ hltn, hnb]; rfl)]; simp
                have HNm' : Hid (∀ u, Calls Try.prog 47 #[.string names[k]] u fun e w' => e = .returned (.bool false) ∧ w' = u) := fun u => by have := HNm.out u; rwa [hnb] at this
                clear HNm hnb
                go_wp2_with (go_at_call 47; refine (HNm'.out _).mono ?_; rintro e wr ⟨rfl, rfl⟩)
                go_ret2
                exact ⟨none, by rw [HTB.out]; rfl, I.out.aside, fun h => by rw [HTB.out] at h; cases h⟩
              | true =>
                have HNm' : Hid (∀ u, Calls Try.prog 47 #[.string names[k]] u fun e w' => e = .returned (.bool true) ∧ w' = u) := fun u => by have := HNm.out u; rwa [hnb] at this
                have HNB : Hid (nameB names[k] = true) := hnb
                clear HNm hnb
                rcases Nat.eq_zero_or_pos k with hk0 | hpos
                · have HNA : Hid (nameAt names k = true) := by show _ = _; rw [nameAt, getD_at _ _ hltn, HNB.out, show (k == 0) = true by rw [hk0]; rfl]; rfl
                  have hd0 : decide (0 < k) = false := by simp; omega
                  clear hk0
                  go_wp2_with (go_at_call 47; refine (HNm'.out _).mono ?_; rintro e wr ⟨rfl, rfl⟩)
                  clear HNm'
                  refine (HI.out kids[k] nvk kvk (d + 1) (room - kids.length - countTo n kids k) ib wr lo hi HR.out hhi I.out.room_ (by omega) (by omega) I.out.left (by have := I.out.left; omega)).mono ?_
                  rintro e1 w1 ⟨pv, rfl, ha1, hok⟩
                  have HA1 : Hid (Aside ib wr w1) := ha1
                  cases htk : takeB n kids[k] (d + 1) (room - kids.length - countTo n kids k) with
                  | false =>
                    have HTB : Hid (tb = false) := by
                      show _ = _
                      rw [HT.out]
                      exact take_no HMB hlt htk
                    clear htk hok ha1
                    go_wp2_with fail
                    go_ret2
                    exact ⟨none, by rw [HTB.out]; rfl, I.out.aside.trans HA1.out, fun h => by rw [HTB.out] at h; cases h⟩
                  | true =>
                    obtain ⟨hroom1, hp1⟩ := hok htk
                    have HRM : Hid (Blk w1 ib #[.int .i64 (room - kids.length - countTo n kids k - countT n kids[k])] 69) := hroom1
                    have HP1 : Hid (PRep w1 wr.heap.size w1.heap.size n kids[k] pv) := hp1
                    have HFi : Hid (partsB n kids[k] (d + 1) = true ∧ (countT n kids[k] : Int) ≤ room - kids.length - countTo n kids k) := by
                      rw [takeB, Bool.and_eq_true] at htk
                      exact ⟨htk.1, by simpa using htk.2⟩
                    obtain ⟨pu, pb, rfl⟩ := hp1.form
                    have HD1 : Hid (Blk w1 (w.heap.size + 1) #[.int .i64 mode, nvv, kvv] 82) := I.out.dir_.aside ha1 (by omega)
                    have y1 := HD1.out.cell 1 _ rfl
                    have HN1 : Hid (w1.ownsRow (w.heap.size + 2) 9 1 nvv k ((names.take k).map .string)) := ownsRow_same I.out.names_ fun g hg => by
                      have := I.out.names_.lt g hg
                      exact ha1.block g this.2 (by omega)
                    have HK1 : Hid (w1.ownsRow (w.heap.size + 2) 73 1 kvv k pvs) := ownsRow_same I.out.kids_ fun g hg => by
                      have := I.out.kids_.lt g hg
                      exact ha1.block g this.2 (by omega)
                    have HZ1 : Hid (w.heap.size + 2 ≤ w1.heap.size) := Nat.le_trans I.out.size ha1.size
                    have hk30 : k ≤ 30 := by omega
                    clear htk hok ha1 hroom1 hp1 x3 x4 c0 c1 c2 c3 c4
                    have tokA : True := trivial
                    have tokB : True := trivial
                    go_wp2_with (first
                      | (at_builtin
                         have _t := tokA
                         go_loud (
                           refine wpList_append_own_at _ rfl _ _ 22 rfl (w.heap.size + 2) 9 iS (.string ⟨#[]⟩) 1 16 Try.underlying22 hiS.out hzS hsS hbS rfl (by decide) nvv k _ rfl (HN1.out.alloc _) ⟨w1.heap.size, 0, none⟩ 1 1 [.string names[k]] rfl rfl (cell_one_new _ _ _) (by simp [Value.oneCell']) (by unfold maxLen; omega) (by omega) (by have := HZ1.out; simp; omega) ?_
                           intro nv1 w2 hown2 hgrow2 hnil2 hat2
                           obtain ⟨g2, cap2, rfl, hg2b, hg2l⟩ := ownsRow_at hown2 (by omega)
                           have HOWN2 := hide hown2
                           have HGROW2 := hide hgrow2
                           have HAT2 := hide hat2
                           have HD2 : Hid (Blk w2 (w.heap.size + 1) #[.int .i64 mode, nvv, kvv] 82) := (HD1.out.alloc _).grown hgrow2 (fun h => by have := HN1.out.lt _ h.symm; omega)
                           have z1 := HD2.out.cell 1 _ rfl
                           have f1 := HD2.out.frozen 1
                           have z2 := HD2.out.cell 2 _ rfl
                           have HK2 : Hid ((w2.setCell ⟨w.heap.size + 1, 1, none⟩ (.slice (some ⟨g2, 0, none⟩) (k + 1) cap2)).ownsRow (w.heap.size + 2) 73 1 kvv k pvs) := ownsRow_same HK1.out fun g hg => by
                             have hl := HK1.out.lt g hg
                             exact after_append hgrow2 (w.heap.size + 1) 1 _ g hl.2 (fun h => I.out.apart g h.symm hg) (by omega)
                           clear hown2 hgrow2 hat2 hnil2 tokA y1))
                      | (at_builtin
                         have _t := tokB
                         refine wpList_append_own_at _ rfl _ _ 80 rfl (w.heap.size + 2) 73 iP .nilIface 1 16 Try.underlying80 hiP.out hzP hsP hbP rfl (by decide) kvv k _ rfl (HK2.out.alloc _) ⟨w2.heap.size, 0, none⟩ 1 1 [.iface pu (.pointer (some ⟨pb, 0, none⟩))] rfl rfl (by simpa [World.setCell] using cell_one_new (w2.setCell ⟨w.heap.size + 1, 1, none⟩ (.slice (some ⟨g2, 0, none⟩) (k + 1) cap2)) (.iface pu (.pointer (some ⟨pb, 0, none⟩))) 73) (by simp [Value.oneCell']) (by unfold maxLen; omega) (by omega) (by have := HZ1.out; simp [World.setCell]; omega) ?_
                         intro kv1 w4 hown4 hgrow4 hnil4 hat4
                         obtain ⟨g4, cap4, rfl, hg4b, hg4l⟩ := ownsRow_at hown4 (by omega)
                         have HOWN4 := hide hown4
                         have HGROW4 := hide hgrow4
                         have HAT4 := hide hat4
                         have HD4 : Hid (Blk w4 (w.heap.size + 1) #[.int .i64 mode, .slice (some ⟨g2, 0, none⟩) (k + 1) cap2, kvv] 82) := ((HD2.out.set 1 _).alloc _).grown hgrow4 (fun h => by have := HK1.out.lt _ h.symm; omega)
                         have z4 := HD4.out.cell 2 _ rfl
                         have f4 := HD4.out.frozen 2
                         clear hown4 hgrow4 hat4 hnil4 tokB))
                    go_roundw
                    case rel => exact ⟨k + 1, _, _, _, _, _, by omega, by go_num, I.out.step hlt hltn hibl HA1.out HRM.out HP1.out HFi.out.1 HFi.out.2 HNA.out _ _ HOWN2.out HGROW2.out HAT2.out HOWN4.out HGROW4.out HAT4.out⟩
                    case measure => simp [intOf]; omega
                · obtain ⟨j, rfl⟩ : ∃ j, k = j + 1 := ⟨k - 1, by omega⟩
                  have hcj := HCl.out j (by omega)
                  have hp0 : (0 : Int) < ((j + 1 : Nat) : Int) := by omega
                  cases hle : (Op.bytesLess names[j + 1].toList names[j].toList || names[j + 1].toList == names[j].toList) with
                  | true =>
                    have HTB : Hid (tb = false) := by
                      show _ = _
                      rw [HT.out, show namesB names = false from range_all_no _ _ (j + 1) hltn (by rw [nameAt, getD_at _ _ hltn, Nat.add_sub_cancel, getD_at _ j (by omega), less, bytesLess_tri, hle]; simp)]; simp
                    go_wp2_with (go_at_call 47; refine (HNm'.out _).mono ?_; rintro e wr ⟨rfl, rfl⟩)
                    go_ret2
                    exact ⟨none, by rw [HTB.out]; rfl, I.out.aside, fun h => by rw [HTB.out] at h; cases h⟩
                  | false =>
                    have HNA : Hid (nameAt names (j + 1) = true) := by show _ = _; rw [nameAt, getD_at _ _ hltn, HNB.out, Nat.add_sub_cancel, getD_at _ j (by omega), less, bytesLess_tri, hle]; simp
                    go_wp2_with (go_at_call 47; refine (HNm'.out _).mono ?_; rintro e wr ⟨rfl, rfl⟩)
                    clear HNm'
                    refine (HI.out kids[(j + 1)] nvk kvk (d + 1) (room - kids.length - countTo n kids (j + 1)) ib wr lo hi HR.out hhi I.out.room_ (by omega) (by omega) I.out.left (by have := I.out.left; omega)).mono ?_
                    rintro e1 w1 ⟨pv, rfl, ha1, hok⟩
                    have HA1 : Hid (Aside ib wr w1) := ha1
                    cases htk : takeB n kids[(j + 1)] (d + 1) (room - kids.length - countTo n kids (j + 1)) with
                    | false =>
                      have HTB : Hid (tb = false) := by
                        show _ = _
                        rw [HT.out]
                        exact take_no HMB hlt htk
                      clear htk hok ha1
                      go_wp2_with fail
                      go_ret2
                      exact ⟨none, by rw [HTB.out]; rfl, I.out.aside.trans HA1.out, fun h => by rw [HTB.out] at h; cases h⟩
                    | true =>
                      obtain ⟨hroom1, hp1⟩ := hok htk
                      have HRM : Hid (Blk w1 ib #[.int .i64 (room - kids.length - countTo n kids (j + 1) - countT n kids[(j + 1)])] 69) := hroom1
                      have HP1 : Hid (PRep w1 wr.heap.size w1.heap.size n kids[(j + 1)] pv) := hp1
                      have HFi : Hid (partsB n kids[(j + 1)] (d + 1) = true ∧ (countT n kids[(j + 1)] : Int) ≤ room - kids.length - countTo n kids (j + 1)) := by
                        rw [takeB, Bool.and_eq_true] at htk
                        exact ⟨htk.1, by simpa using htk.2⟩
                      obtain ⟨pu, pb, rfl⟩ := hp1.form
                      have HD1 : Hid (Blk w1 (w.heap.size + 1) #[.int .i64 mode, nvv, kvv] 82) := I.out.dir_.aside ha1 (by omega)
                      have y1 := HD1.out.cell 1 _ rfl
                      have HN1 : Hid (w1.ownsRow (w.heap.size + 2) 9 1 nvv (j + 1) ((names.take (j + 1)).map .string)) := ownsRow_same I.out.names_ fun g hg => by
                        have := I.out.names_.lt g hg
                        exact ha1.block g this.2 (by omega)
                      have HK1 : Hid (w1.ownsRow (w.heap.size + 2) 73 1 kvv (j + 1) pvs) := ownsRow_same I.out.kids_ fun g hg => by
                        have := I.out.kids_.lt g hg
                        exact ha1.block g this.2 (by omega)
                      have HZ1 : Hid (w.heap.size + 2 ≤ w1.heap.size) := Nat.le_trans I.out.size ha1.size
                      have hk30 : (j + 1) ≤ 30 := by omega
                      clear htk hok ha1 hroom1 hp1 x3 x4 c0 c1 c2 c3 c4
                      have tokA : True := trivial
                      have tokB : True := trivial
                      go_wp2_with (first
                        | (at_builtin
                           have _t := tokA
                           go_loud (
                             refine wpList_append_own_at _ rfl _ _ 22 rfl (w.heap.size + 2) 9 iS (.string ⟨#[]⟩) 1 16 Try.underlying22 hiS.out hzS hsS hbS rfl (by decide) nvv (j + 1) _ rfl (HN1.out.alloc _) ⟨w1.heap.size, 0, none⟩ 1 1 [.string names[(j + 1)]] rfl rfl (cell_one_new _ _ _) (by simp [Value.oneCell']) (by unfold maxLen; omega) (by omega) (by have := HZ1.out; simp; omega) ?_
                             intro nv1 w2 hown2 hgrow2 hnil2 hat2
                             obtain ⟨g2, cap2, rfl, hg2b, hg2l⟩ := ownsRow_at hown2 (by omega)
                             have HOWN2 := hide hown2
                             have HGROW2 := hide hgrow2
                             have HAT2 := hide hat2
                             have HD2 : Hid (Blk w2 (w.heap.size + 1) #[.int .i64 mode, nvv, kvv] 82) := (HD1.out.alloc _).grown hgrow2 (fun h => by have := HN1.out.lt _ h.symm; omega)
                             have z1 := HD2.out.cell 1 _ rfl
                             have f1 := HD2.out.frozen 1
                             have z2 := HD2.out.cell 2 _ rfl
                             have HK2 : Hid ((w2.setCell ⟨w.heap.size + 1, 1, none⟩ (.slice (some ⟨g2, 0, none⟩) ((j + 1) + 1) cap2)).ownsRow (w.heap.size + 2) 73 1 kvv (j + 1) pvs) := ownsRow_same HK1.out fun g hg => by
                               have hl := HK1.out.lt g hg
                               exact after_append hgrow2 (w.heap.size + 1) 1 _ g hl.2 (fun h => I.out.apart g h.symm hg) (by omega)
                             clear hown2 hgrow2 hat2 hnil2 tokA y1))
                        | (at_builtin
                           have _t := tokB
                           refine wpList_append_own_at _ rfl _ _ 80 rfl (w.heap.size + 2) 73 iP .nilIface 1 16 Try.underlying80 hiP.out hzP hsP hbP rfl (by decide) kvv (j + 1) _ rfl (HK2.out.alloc _) ⟨w2.heap.size, 0, none⟩ 1 1 [.iface pu (.pointer (some ⟨pb, 0, none⟩))] rfl rfl (by simpa [World.setCell] using cell_one_new (w2.setCell ⟨w.heap.size + 1, 1, none⟩ (.slice (some ⟨g2, 0, none⟩) ((j + 1) + 1) cap2)) (.iface pu (.pointer (some ⟨pb, 0, none⟩))) 73) (by simp [Value.oneCell']) (by unfold maxLen; omega) (by omega) (by have := HZ1.out; simp [World.setCell]; omega) ?_
                           intro kv1 w4 hown4 hgrow4 hnil4 hat4
                           obtain ⟨g4, cap4, rfl, hg4b, hg4l⟩ := ownsRow_at hown4 (by omega)
                           have HOWN4 := hide hown4
                           have HGROW4 := hide hgrow4
                           have HAT4 := hide hat4
                           have HD4 : Hid (Blk w4 (w.heap.size + 1) #[.int .i64 mode, .slice (some ⟨g2, 0, none⟩) ((j + 1) + 1) cap2, kvv] 82) := ((HD2.out.set 1 _).alloc _).grown hgrow4 (fun h => by have := HK1.out.lt _ h.symm; omega)
                           have z4 := HD4.out.cell 2 _ rfl
                           have f4 := HD4.out.frozen 2
                           clear hown4 hgrow4 hat4 hnil4 tokB))
                      go_roundw
                      case rel => exact ⟨(j + 1) + 1, _, _, _, _, _, by omega, by go_num, I.out.step hlt hltn hibl HA1.out HRM.out HP1.out HFi.out.1 HFi.out.2 HNA.out _ _ HOWN2.out HGROW2.out HAT2.out HOWN4.out HGROW4.out HAT4.out⟩
                      case measure => simp [intOf]; omega
            · have e1 : k = kids.length := by omega
              have HTB : Hid (tb = true) := by
                show _ = _
                rw [HT.out, HMB.out, hde, show ((names.length : Int) == (kids.length : Int)) = true by have := HLN.out; simp; omega]
                have g1 : namesB names = true := by rw [namesB, HLN.out, ← e1]; exact I.out.good
                have g2 : kids.all (fun k => partsB n k (d + 1)) = true := List.all_eq_true.2 fun x hx => by
                  obtain ⟨i, hi, rfl⟩ := List.getElem_of_mem hx
                  exact I.out.fine i hi (by omega)
                have g3 := I.out.left
                rw [e1, countTo, List.take_of_length_le (Nat.le_refl _)] at g3
                rw [g1, g2]
                simp
                omega
              have HCT : Hid (room - kids.length - countTo n kids k = room - (cn : Int)) := by
                show _ = _
                rw [HCn.out, e1, countTo, List.take_of_length_le (Nat.le_refl _)]
                omega
              have hdx : decide (k < names.length) = false := by have := HLN.out; simp; omega
              have hdy : decide ((k : Int) < (names.length : Int)) = false := by have := HLN.out; simp; omega
              have HE1 : Hid (k = kids.length) := e1
              clear e1
              go_wp2_with fail
              go_ret2
              refine ⟨_, by rw [HTB.out]; rfl, I.out.aside, fun _ => ⟨?_, w.heap.size + 1, rfl, I.out.done HE1.out HLN.out (by unfold maxLen; omega) HNs.out data⟩⟩
              have := I.out.room_
              rwa [HCT.out] at this

theorem dir_part : ∀ n, DirC n ∧ PartC n
  | 0 => ⟨fun t => Empty.elim (show Empty from t), fun t => Empty.elim (show Empty from t)⟩
  | n + 1 =>
    have h := dir_of_part n (dir_part n).2
    ⟨h, part_of_dir (n + 1) h⟩

end Go.Proofs.Ytifbbbgcdklaaaa
