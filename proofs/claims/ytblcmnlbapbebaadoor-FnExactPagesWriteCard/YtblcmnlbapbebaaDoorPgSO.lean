/- The specification's PagesOk. -/
import Derived.Test.YtblcmnlbapbebaaDoorPgS
import Derived.BigQuiet
import Derived.Deep.QuietTactic
import Derived.Deep.CutRange
import Derived.Deep.CutBlock
namespace Go.Proofs.YtblcmnlbapbebaaDoor
open Go.RowKit

theorem info_bool : (Tryd.prog.info? 4).map (fun i => (i.zero, i.size, i.bytes)) = some (some (.bool false), 1, 1) := by kernel_rfl

/-- What the specification keeps: the box, and what it has seen. -/
structure OkI (w : World) (A : Array Value) (S : List Bool) (wr : World) : Prop where
  below : Below w.heap.size w wr
  box : Blk wr w.heap.size A 31
  row : wr.rowIs (w.heap.size + 1) 4 96 (fun j => .bool (S.getD j false))
  len : S.length = 96
theorem OkI.step {w : World} {A : Array Value} {S : List Bool} {wr wj : World} (h : OkI w A S wr) (hb : Below wr.heap.size wr wj) : OkI w A S wj := by
  refine ⟨h.below.trans (hb.mono h.below.size), h.box.below hb h.box.lt, ?_, h.len⟩
  obtain ⟨cells, hc1, hc⟩ := h.row
  exact ⟨cells, (hb.block _ h.row.lt).trans hc1, hc⟩
theorem OkI.set {w : World} {A : Array Value} {S : List Bool} {wr : World} (h : OkI w A S wr) (a : Nat) (ha : a < 96) : OkI w A (S.set a true) (wr.setCell ⟨w.heap.size + 1, a, none⟩ (.bool true)) := by
  have hl := h.len
  refine ⟨h.below.setCell (p := ⟨w.heap.size + 1, a, none⟩) (by show _ ≤ w.heap.size + 1; omega) _, h.box.other _ _ (by show w.heap.size ≠ w.heap.size + 1; omega), (h.row.set a _).congr fun j hj => ?_, by rw [List.length_set]; exact hl⟩
  rw [set_getD _ _ _ (by omega)]
  by_cases e : j = a
  · rw [if_pos e, if_pos e]
  · rw [if_neg e, if_neg e]

def prevB (N : List Pn) (k : Nat) : Option ByteArray := if k = 0 then none else (N[k - 1]?).map (·.name)
def headB (pr : Option ByteArray) (n : Pn) : Bool := nameB n.name && prB pr n.name && (decide (0 ≤ n.size) && decide (n.size ≤ 3000)) && decide (-1 ≤ n.first)
theorem seenAll_at (P : List Pg) (N : List Pn) (k : Nat) (h : k < N.length) (S : List Bool) : seenAll P (prevB N k) (N.drop k) S =
    if headB (prevB N k) N[k] = true then (chainV P N[k].first N[k].size.toNat).bind fun c => (seeB S c.1).bind (seenAll P (prevB N (k + 1)) (N.drop (k + 1))) else none := by
  rw [List.drop_eq_getElem_cons h, seenAll]
  have e : prevB N (k + 1) = some N[k].name := by
    rw [prevB, if_neg (by omega), Nat.add_sub_cancel, List.getElem?_eq_getElem h]; rfl
  rw [e]
  by_cases hb : headB (prevB N k) N[k] = true
  · rw [if_pos hb]
    simp only [headB, Bool.and_eq_true, decide_eq_true_eq] at hb
    rw [if_pos ⟨hb.1.1.1, hb.1.1.2, hb.1.2.1, hb.1.2.2, hb.2⟩]
  · rw [if_neg hb, if_neg]
    intro h'
    apply hb
    simp only [headB, Bool.and_eq_true, decide_eq_true_eq]
    exact ⟨⟨⟨h'.1, h'.2.1⟩, h'.2.2.1, h'.2.2.2.1⟩, h'.2.2.2.2⟩

theorem specB_some {P : List Pg} {N : List Pn} {S : List Bool} (hP : P.length = 96) (hN : N.length ≤ 16) (h : seenAll P none N (List.replicate 96 false) = some S) : specB P N = decide (∀ (a : Nat) (h : a < P.length), endB P[a] (S.getD a false) = true) := by
  rw [specB, if_pos ⟨hP, hN⟩, h]
theorem specB_none {P : List Pg} {N : List Pn} (h : seenAll P none N (List.replicate 96 false) = none) : specB P N = false := by
  rw [specB, h]; split <;> rfl
theorem specB_len {P : List Pg} {N : List Pn} (h : ¬ (P.length = 96 ∧ N.length ≤ 16)) : specB P N = false := by rw [specB, if_neg h]
theorem seeB_at (S : List Bool) (c : List Nat) (j : Nat) (h : j < c.length) : seeB S (c.drop j) = if S.getD c[j] false = true then none else seeB (S.set c[j] true) (c.drop (j + 1)) := by
  rw [List.drop_eq_getElem_cons h, seeB]

set_option maxHeartbeats 8000000 in
set_option maxRecDepth 100000 in
theorem specOk_any (P : List Pg) (N : List Pn) (pv nv : Value) (w : World) (lo hi : Nat) (hp : RcsAt fPg w lo hi pv P) (hn : RcsAt fPn w lo hi nv N) (hhi : hi ≤ w.heap.size)
    (hs : ∀ (i : Nat) (h : i < P.length), P[i].data.size ≤ maxLen) (hsn : ∀ (i : Nat) (h : i < N.length), N[i].name.size ≤ maxLen) :
    Calls Tryd.prog 11 #[.agg #[pv, nv]] w fun e w' => e = .returned (.bool (okB P N)) ∧ Below w.heap.size w w' := by
  rw [← specB_okB]
  have hPl := hp.len
  have hNl := hn.len
  unfold maxLen at hPl hNl
  have HCh : Hid (P.length = 96 → ∀ W (n : Pn), Below w.heap.size w W → 0 ≤ n.size → n.size ≤ 3000 → Calls Tryd.prog 25 #[.agg #[pv, nv], .agg #[.string n.name, .int .i64 n.first, .int .i64 n.size]] W (fun e w' => ChainPost W P n.first n.size.toNat e w')) := fun hP W n hW h1 h2 => by
    have := l32Chain_any P pv nv n.name n.first n.size.toNat W lo hi (hp.keep hW hhi) (Nat.le_trans hhi hW.size) hP (by omega) hs (by obtain ⟨a, c, e, _⟩ := hn; exact ⟨_, _, _, e⟩)
    rwa [Int.toNat_of_nonneg h1] at this
  have HP := hide hp
  have HN := hide hn
  have HS := hide hsn
  obtain ⟨pa, pc, rfl⟩ : ∃ a c, pv = .slice a P.length c := by obtain ⟨a, c, e, _⟩ := hp; exact ⟨_, _, e⟩
  obtain ⟨na, nc, rfl⟩ : ∃ a c, nv = .slice a N.length c := by obtain ⟨a, c, e, _⟩ := hn; exact ⟨_, _, e⟩
  clear hp hn hs hsn
  have HA : Hid (∀ o, Below w.heap.size w (w.alloc o)) := fun o => (Below.refl _ _).alloc (Nat.le_refl _) o
  by_cases hP : P.length = 96
  case neg =>
    have HV := hide (specB_len (N := N) (fun h => hP h.1))
    have hne : ((P.length : Int) != 96) = true := by simp; omega
    go_enter Tryd.func11, Tryd.ntmps11
    go_wp2_with fail
    go_ret
    exact ⟨by rw [HV.out]; rfl, HA.out _⟩
  by_cases hN16 : N.length ≤ 16
  case neg =>
    have HV := hide (specB_len (P := P) (fun h => hN16 h.2))
    have hne : ((P.length : Int) != 96) = false := by simp; omega
    have hgt : (16 : Int) < (N.length : Int) := by omega
    go_enter Tryd.func11, Tryd.ntmps11
    go_wp2_with fail
    go_ret
    exact ⟨by rw [HV.out]; rfl, HA.out _⟩
  have HCh := hide (HCh.out hP)
  have HPl := hide hP
  have hne : ((P.length : Int) != 96) = false := by simp; omega
  have hgt : ¬ (16 : Int) < (N.length : Int) := by omega
  have hmk : ∀ W : World, (Instr.makeSlice 58 (.int .i64 96) (.int .i64 96)).run Tryd.prog W = .ok (.slice (some ⟨W.heap.size, 0, none⟩) 96 96) (W.alloc (.cells (madeCells #[.bool false] 96) 4)) := fun W => run_make_row' (P := Tryd.prog) 58 4 (.bool false) 1 Tryd.underlying58 info_bool rfl .i64 .i64 96 (by omega) (by omega) W
  go_enter Tryd.func11, Tryd.ntmps11
  go_wp2_with fail
  go_loopw [4] (fun iv wr => ∃ (k : Nat) (S : List Bool), iv = .int .i64 k ∧ k ≤ N.length ∧ Hid (OkI w #[.slice pa 96 pc, .slice na N.length nc] S wr) ∧ Hid (seenAll P none N (List.replicate 96 false) = seenAll P (prevB N k) (N.drop k) S)) (fun iv _ => N.length - (intOf iv).toNat)
  case atStart =>
    refine ⟨0, List.replicate 96 false, rfl, Nat.zero_le _, ?_, ?_⟩
    · refine ⟨((Below.refl w.heap.size w).alloc (Nat.le_refl _) (.cells #[.slice pa 96 pc, .slice na N.length nc] 31)).alloc (by simp) _, (Blk.new w _ _).alloc _, ?_, by simp⟩
      have := World.rowIs_made (w.alloc (.cells #[.slice pa 96 pc, .slice na N.length nc] 31)) (.bool false) 96 4
      simp only [World.size_alloc] at this
      exact this.congr fun j _ => by rw [rep_getD]
    · show _ = _
      rw [prevB, if_pos rfl, List.drop_zero]
  case round =>
    obtain ⟨k, S, rfl, hk, HI, HE⟩ := hrel
    clear hmk
    have x0 := HI.out.box.cell 0 _ rfl
    have x1 := HI.out.box.cell 1 _ rfl
    have xl := HI.out.box.lt
    by_cases hlt : k < N.length
    · have hltI : (k : Int) < (N.length : Int) := by omega
      obtain ⟨nb, no, hnb, rfl, hcell⟩ : ∃ b o, b < w.heap.size ∧ na = some ⟨b, o, none⟩ ∧ ∀ (i : Nat) (h : i < N.length), wr.cell? ⟨b, o + i * 3, none⟩ = some (.string N[i].name) ∧ wr.cell? ⟨b, o + i * 3 + 1, none⟩ = some (.int .i64 N[i].first) ∧ wr.cell? ⟨b, o + i * 3 + 2, none⟩ = some (.int .i64 N[i].size) := by
        obtain ⟨a, cap, e, _, hc⟩ := HN.out
        simp only [Value.slice.injEq] at e
        obtain ⟨rfl, _, _⟩ := e
        obtain ⟨b, o, h1, h2, h3, h4⟩ := hc (by omega)
        refine ⟨b, o, by omega, h1, fun i hi => ?_⟩
        have hbl : b < w.heap.size := by omega
        obtain ⟨q0, q1, q2⟩ := h4 i hi
        exact ⟨(HI.out.below.cell (p := ⟨b, o + i * 3, none⟩) hbl).trans q0, (HI.out.below.cell (p := ⟨b, o + i * 3 + 1, none⟩) hbl).trans q1, (HI.out.below.cell (p := ⟨b, o + i * 3 + 2, none⟩) hbl).trans q2⟩
      obtain ⟨y0, y1, y2⟩ := hcell k hlt
      have HCell := hide hcell
      clear hcell
      have HEk := hide (seenAll_at P N k hlt S)
      go_upto_region 8 with fail
      go_cut [64] from 34 to 64 (fun c wx => c = .bool (!(headB (prevB N k) N[k])) ∧ Hid (∃ n, wx = (wr.alloc (.cells #[.string N[k].name, .int .i64 N[k].first, .int .i64 N[k].size] 40)).drewN n))
      case first =>
        have HNm : Hid (∀ u, Calls Tryd.prog 23 #[.string N[k].name] u fun e w' => e = .returned (.bool (nameB N[k].name)) ∧ w' = u) := fun u => l1NameOk_any _ u (HS.out k hlt)
        have HIn0 : Hid (∀ u, Calls Tryd.prog 24 #[.int .i64 N[k].size, .int .i64 0, .int .i64 3000] u fun e w' => e = .returned (.bool (decide (0 ≤ N[k].size) && decide (N[k].size ≤ 3000))) ∧ w' = u) := fun u => l1In_any N[k].size 0 3000 u
        cases hnb : nameB N[k].name with
        | false =>
          have HNm' : Hid (∀ u, Calls Tryd.prog 23 #[.string N[k].name] u fun e w' => e = .returned (.bool false) ∧ w' = u) := fun u => by have := HNm.out u; rwa [hnb] at this
          have HIn' := HIn0
          go_quiet ((first | (go_at_call 23; exact Calls.quiet_of_same (HNm'.out _)) | (go_at_call 24; exact Calls.quiet_of_same (HIn'.out _))))
          go_wp2_with fail
          go_meet
          have hh : (!(headB (prevB N k) N[k])) = true := by rw [headB, hnb]; rfl
          exact ⟨by rw [hh], ⟨_, rfl⟩⟩
        | true =>
          have HNm' : Hid (∀ u, Calls Tryd.prog 23 #[.string N[k].name] u fun e w' => e = .returned (.bool true) ∧ w' = u) := fun u => by have := HNm.out u; rwa [hnb] at this
          rcases Nat.eq_zero_or_pos k with hk0 | hpos
          · subst hk0
            have hpr : prB (prevB N 0) N[0].name = true := by rw [prevB, if_pos rfl]; rfl
            cases hin : (decide ((0 : Int) ≤ N[0].size) && decide (N[0].size ≤ (3000 : Int))) with
            | false =>
              have HIn' : Hid (∀ u, Calls Tryd.prog 24 #[.int .i64 N[0].size, .int .i64 0, .int .i64 3000] u fun e w' => e = .returned (.bool false) ∧ w' = u) := fun u => by have := l1In_any N[0].size 0 3000 u; rwa [hin] at this
              go_quiet ((first | (go_at_call 23; exact Calls.quiet_of_same (HNm'.out _)) | (go_at_call 24; exact Calls.quiet_of_same (HIn'.out _))))
              go_wp2_with fail
              go_meet
              have hh : (!(headB (prevB N 0) N[0])) = true := by rw [headB, hnb, hpr, hin]; rfl
              exact ⟨by rw [hh], ⟨_, rfl⟩⟩
            | true =>
              have HIn' : Hid (∀ u, Calls Tryd.prog 24 #[.int .i64 N[0].size, .int .i64 0, .int .i64 3000] u fun e w' => e = .returned (.bool true) ∧ w' = u) := fun u => by have := l1In_any N[0].size 0 3000 u; rwa [hin] at this
              by_cases hf : N[0].first < -1
              · have hfd : decide (N[0].first < (-1 : Int)) = true := by simpa using hf
                go_quiet ((first | (go_at_call 23; exact Calls.quiet_of_same (HNm'.out _)) | (go_at_call 24; exact Calls.quiet_of_same (HIn'.out _))))
                go_wp2_with fail
                go_meet
                have hh : (!(headB (prevB N 0) N[0])) = true := by rw [headB, hnb, hpr, hin, show decide ((-1 : Int) ≤ N[0].first) = false by simp; omega]; rfl
                exact ⟨by rw [hh], ⟨_, rfl⟩⟩
              · have hfd : decide (N[0].first < (-1 : Int)) = false := by simpa using hf
                go_quiet ((first | (go_at_call 23; exact Calls.quiet_of_same (HNm'.out _)) | (go_at_call 24; exact Calls.quiet_of_same (HIn'.out _))))
                go_wp2_with fail
                go_meet
                have hh : (!(headB (prevB N 0) N[0])) = false := by rw [headB, hnb, hpr, hin, show decide ((-1 : Int) ≤ N[0].first) = true by simp; omega]; rfl
                exact ⟨by rw [hh], ⟨_, rfl⟩⟩
          · obtain ⟨j, rfl⟩ : ∃ j, k = j + 1 := ⟨k - 1, by omega⟩
            obtain ⟨z0, _, _⟩ := HCell.out j (by omega)
            have hp0 : (0 : Int) < ((j + 1 : Nat) : Int) := by omega
            have hwj : IntKind.i64.wrap (j : Int) = (j : Int) := by rw [IntKind.wrap_i64]; omega
            have hjI : (j : Int) < (N.length : Int) := by omega
            have hnbw : nb < wr.heap.size := by have := HI.out.below.size; omega
            have hprv : prB (prevB N (j + 1)) N[j + 1].name = Op.bytesLess N[j].name.toList N[j + 1].name.toList := by
              rw [prevB, if_neg (by omega), Nat.add_sub_cancel, List.getElem?_eq_getElem (by omega)]; rfl
            cases hls : Op.bytesLess N[j].name.toList N[j + 1].name.toList with
            | false =>
              have HIn' := HIn0
              go_quiet ((first | (go_at_call 23; exact Calls.quiet_of_same (HNm'.out _)) | (go_at_call 24; exact Calls.quiet_of_same (HIn'.out _))))
              go_wp2_with fail
              go_meet
              have hh : (!(headB (prevB N (j + 1)) N[j + 1])) = true := by rw [headB, hnb, hprv, hls]; rfl
              exact ⟨by rw [hh], ⟨_, rfl⟩⟩
            | true =>
              rw [hls] at hprv
              cases hin : (decide ((0 : Int) ≤ N[j + 1].size) && decide (N[j + 1].size ≤ (3000 : Int))) with
              | false =>
                have HIn' : Hid (∀ u, Calls Tryd.prog 24 #[.int .i64 N[j + 1].size, .int .i64 0, .int .i64 3000] u fun e w' => e = .returned (.bool false) ∧ w' = u) := fun u => by have := l1In_any N[j + 1].size 0 3000 u; rwa [hin] at this
                go_quiet ((first | (go_at_call 23; exact Calls.quiet_of_same (HNm'.out _)) | (go_at_call 24; exact Calls.quiet_of_same (HIn'.out _))))
                go_wp2_with fail
                go_meet
                have hh : (!(headB (prevB N (j + 1)) N[j + 1])) = true := by rw [headB, hnb, hprv, hin]; rfl
                exact ⟨by rw [hh], ⟨_, rfl⟩⟩
              | true =>
                have HIn' : Hid (∀ u, Calls Tryd.prog 24 #[.int .i64 N[j + 1].size, .int .i64 0, .int .i64 3000] u fun e w' => e = .returned (.bool true) ∧ w' = u) := fun u => by have := l1In_any N[j + 1].size 0 3000 u; rwa [hin] at this
                by_cases hf : N[j + 1].first < -1
                · have hfd : decide (N[j + 1].first < (-1 : Int)) = true := by simpa using hf
                  go_quiet ((first | (go_at_call 23; exact Calls.quiet_of_same (HNm'.out _)) | (go_at_call 24; exact Calls.quiet_of_same (HIn'.out _))))
                  go_wp2_with fail
                  go_meet
                  have hh : (!(headB (prevB N (j + 1)) N[j + 1])) = true := by rw [headB, hnb, hprv, hin, show decide ((-1 : Int) ≤ N[j + 1].first) = false by simp; omega]; rfl
                  exact ⟨by rw [hh], ⟨_, rfl⟩⟩
                · have hfd : decide (N[j + 1].first < (-1 : Int)) = false := by simpa using hf
                  go_quiet ((first | (go_at_call 23; exact Calls.quiet_of_same (HNm'.out _)) | (go_at_call 24; exact Calls.quiet_of_same (HIn'.out _))))
                  go_wp2_with fail
                  go_meet
                  have hh : (!(headB (prevB N (j + 1)) N[j + 1])) = false := by rw [headB, hnb, hprv, hin, show decide ((-1 : Int) ≤ N[j + 1].first) = true by simp; omega]; rfl
                  exact ⟨by rw [hh], ⟨_, rfl⟩⟩
      case rest =>
        obtain ⟨rfl, HW⟩ := hcut
        obtain ⟨nq, hnq⟩ := HW.out
        have HI5 : Hid (OkI w #[.slice pa 96 pc, .slice (some ⟨nb, no, none⟩) N.length nc] S wc ∧ Blk wc wr.heap.size #[.string N[k].name, .int .i64 N[k].first, .int .i64 N[k].size] 40) := by
          rw [hnq]
          exact ⟨HI.out.step (below_drewN ((Below.refl _ _).alloc (Nat.le_refl _) _) _), show Blk ((wr.alloc _).drewN nq) _ _ _ from Blk.new wr _ _⟩
        clear hnq HW
        cases hh : headB (prevB N k) N[k] with
        | false =>
          have HV : Hid (specB P N = false) := specB_none (by rw [HE.out, HEk.out, if_neg (by simp [hh])])
          go_wp2_with fail
          go_ret
          exact ⟨by rw [HV.out]; rfl, HI5.out.1.below⟩
        | true =>
          have hh' := hh
          simp only [headB, Bool.and_eq_true, decide_eq_true_eq] at hh'
          have HEk2 : Hid (seenAll P none N (List.replicate 96 false) = (chainV P N[k].first N[k].size.toNat).bind fun c => (seeB S c.1).bind (seenAll P (prevB N (k + 1)) (N.drop (k + 1)))) := by
            show _ = _
            rw [HE.out, HEk.out, if_pos hh]
          have p0 := HI5.out.1.box.cell 0 _ rfl
          have p1 := HI5.out.1.box.cell 1 _ rfl
          have n0 := HI5.out.2.cell 0 _ rfl
          have n1 := HI5.out.2.cell 1 _ rfl
          have n2 := HI5.out.2.cell 2 _ rfl
          have HC5 := hide (HCh.out wc N[k] HI5.out.1.below hh'.1.2.1 hh'.1.2.2)
          rw [hP] at HC5
          clear hh' x0 x1 y0 y1 y2
          go_wp2_with fail
          refine HC5.out.mono ?_
          rintro e w6 ⟨oa, on, oc, b, rfl, hB6, hno, hyes⟩
          have HI6 := hide (HI5.out.1.step hB6)
          have HNo := hide hno
          cases hch : chainV P N[k].first N[k].size.toNat with
          | none =>
            obtain rfl := hno hch
            have HV : Hid (specB P N = false) := specB_none (by rw [HEk2.out, hch]; rfl)
            clear hB6 hno hyes p0 p1 n0 n1 n2
            go_wp2_with fail
            go_ret
            exact ⟨by rw [HV.out]; rfl, HI6.out.below⟩
          | some x =>
            obtain ⟨rfl, rfl, hrow⟩ := hyes x hch
            have HRow := hide hrow
            have HLt := hide ((chainV_end P _ _ _ x.1 x.2 (Nat.le_refl _) (by rw [hch])).2.2)
            have HEk3 : Hid (seenAll P none N (List.replicate 96 false) = (seeB S x.1).bind (seenAll P (prevB N (k + 1)) (N.drop (k + 1)))) := by
              show _ = _
              rw [HEk2.out, hch]; rfl
            have HSz6 : Hid (w.heap.size + 1 < wc.heap.size) := HI5.out.1.row.lt
            have hl6 : x.1.length ≤ 9223372036854775807 := by
              have := hrow.2
              rcases this with ⟨_, h0⟩ | ⟨g, cap, cur, q1, q2, q3, q4, q5, _⟩
              · omega
              · unfold maxLen at q5; omega
            clear hB6 hno hyes p0 p1 n0 n1 n2 hrow hch HNo HC5
            go_wp2_with fail
            go_loopw [8] (fun jv wr2 => ∃ (j : Nat) (S2 : List Bool), jv = .int .i64 j ∧ j ≤ x.1.length ∧ Hid (OkI w #[.slice pa 96 pc, .slice (some ⟨nb, no, none⟩) N.length nc] S2 wr2) ∧ Hid (seeB S x.1 = seeB S2 (x.1.drop j)) ∧ Hid (wr2.ownsRow wc.heap.size 3 1 (.slice oa x.1.length oc) x.1.length (natsC x.1))) (fun jv _ => x.1.length - (intOf jv).toNat)
            case atStart => exact ⟨0, S, rfl, Nat.zero_le _, HI6, by rw [List.drop_zero]; rfl, HRow⟩
            case round =>
              obtain ⟨j, S2, rfl, hj, HI7, HE7, HR7⟩ := hrel
              clear HI6 HRow
              by_cases hjl : j < x.1.length
              · have hjI : (j : Int) < (x.1.length : Int) := by omega
                obtain ⟨g, cap, hv, hg1, hg2⟩ := ownsRow_at HR7.out (by omega)
                simp only [Value.slice.injEq, true_and] at hv
                obtain ⟨rfl, rfl⟩ := hv
                have ha96 : x.1[j] < 96 := by have := HLt.out _ (List.getElem_mem hjl); omega
                have haI : ((x.1[j] : Nat) : Int) < 96 := by omega
                have c0 : wr.cell? ⟨g, j, none⟩ = some (.int .i64 (x.1[j] : Int)) := by
                  rw [HR7.out.cellAt j (by omega), natsC, List.getElem?_map, List.getElem?_eq_getElem hjl]; rfl
                have c1 := HI7.out.row.cell ha96
                have f1 := HI7.out.row.frozen x.1[j]
                have HEs := hide (seeB_at S2 x.1 j hjl)
                cases hsb : S2.getD x.1[j] false with
                | true =>
                  rw [hsb] at c1
                  have HV : Hid (specB P N = false) := specB_none (by rw [HEk3.out, HE7.out, HEs.out, if_pos hsb]; rfl)
                  go_wp2_with fail
                  go_ret
                  exact ⟨by rw [HV.out]; rfl, HI7.out.below⟩
                | false =>
                  rw [hsb] at c1
                  have HI8 := hide (HI7.out.set x.1[j] ha96)
                  have HE8 : Hid (seeB S x.1 = seeB (S2.set x.1[j] true) (x.1.drop (j + 1))) := by
                    show _ = _
                    rw [HE7.out, HEs.out, if_neg (by rw [hsb]; exact Bool.false_ne_true)]
                  have HR8 : Hid ((wr.setCell ⟨w.heap.size + 1, x.1[j], none⟩ (.bool true)).ownsRow wc.heap.size 3 1 (.slice (some ⟨g, 0, none⟩) x.1.length oc) x.1.length (natsC x.1)) :=
                    ownsRow_same HR7.out fun g' hg' => Below.heap_setCell _ _ _ _ (by have := (HR7.out.lt g' hg').1; have := HSz6.out; show g' ≠ w.heap.size + 1; omega)
                  go_wp2_with fail
                  go_roundw
                  case rel => exact ⟨j + 1, _, by go_num, by omega, HI8, HE8, HR8⟩
                  case measure => simp [intOf]; omega
              · obtain rfl : j = x.1.length := by omega
                have HE9 : Hid (seenAll P none N (List.replicate 96 false) = seenAll P (prevB N (k + 1)) (N.drop (k + 1)) S2) := by
                  show _ = _
                  rw [HEk3.out, HE7.out, List.drop_length]; rfl
                go_wp2_with fail
                go_roundw
                case rel => exact ⟨k + 1, S2, by go_num, by omega, HI7, HE9⟩
                case measure => simp [intOf]; omega
    · obtain rfl : k = N.length := by omega
      have HS1 : Hid (seenAll P none N (List.replicate 96 false) = some S) := by
        show _ = _
        rw [HE.out, List.drop_length]; rfl
      have HV := hide (specB_some hP hN16 HS1.out)
      clear HE
      go_wp2_with fail
      go_loopw [9] (fun iv wq => ∃ (i : Nat), iv = .int .i64 i ∧ i ≤ 96 ∧ Hid (OkI w #[.slice pa 96 pc, .slice na N.length nc] S wq) ∧ Hid (∀ (a : Nat) (h : a < P.length), a < i → endB P[a] (S.getD a false) = true)) (fun iv _ => 96 - (intOf iv).toNat)
      case atStart => exact ⟨0, rfl, Nat.zero_le _, HI, fun a _ h => by omega⟩
      case round =>
        obtain ⟨i, rfl, hi96, HIq, HEi⟩ := hrel
        clear HI x0 x1 xl
        have x0 := HIq.out.box.cell 0 _ rfl
        have xl := HIq.out.box.lt
        by_cases hil : i < 96
        · have hiI : (i : Int) < 96 := by omega
          have hiP : i < P.length := by omega
          obtain ⟨pb, po, hpb, rfl, c0, c1, c2⟩ : ∃ b o, b < w.heap.size ∧ pa = some ⟨b, o, none⟩ ∧ wr.cell? ⟨b, o + i * 3, none⟩ = some (.bool P[i].used) ∧ wr.cell? ⟨b, o + i * 3 + 1, none⟩ = some (.string P[i].data) ∧ wr.cell? ⟨b, o + i * 3 + 2, none⟩ = some (.int .i64 P[i].next) := by
            obtain ⟨a, cap, e, _, hc⟩ := HP.out
            simp only [Value.slice.injEq] at e
            obtain ⟨rfl, _, _⟩ := e
            obtain ⟨b, o, h1, h2, h3, h4⟩ := hc (by omega)
            have hbl : b < w.heap.size := by omega
            obtain ⟨q0, q1, q2⟩ := h4 i hiP
            exact ⟨b, o, hbl, h1, (HIq.out.below.cell (p := ⟨b, o + i * 3, none⟩) hbl).trans q0, (HIq.out.below.cell (p := ⟨b, o + i * 3 + 1, none⟩) hbl).trans q1, (HIq.out.below.cell (p := ⟨b, o + i * 3 + 2, none⟩) hbl).trans q2⟩
          have r0 := HIq.out.row.cell hil
          have rl := HIq.out.row.lt
          go_upto_region 23 with fail
          go_cut [130] from 99 to 130 (fun c wx => c = .bool (!(endB P[i] (S.getD i false))) ∧ Hid (∃ o n, wx = (wr.alloc o).drewN n))
          case first =>
            rcases (Bool.eq_false_or_eq_true P[i].used) with hu | hu
            · rcases (Bool.eq_false_or_eq_true (S.getD i false)) with hs2 | hs2
              · rw [hs2] at r0
                by_cases hf : P[i].next < -1
                · have hfd : decide (P[i].next < (-1 : Int)) = true := by simpa using hf
                  go_quiet (fail)
                  go_wp2_with fail
                  go_meet
                  have hh : (!(endB P[i] (S.getD i false))) = true := by rw [endB, hu, hs2, show decide ((-1 : Int) ≤ P[i].next) = false by simp; omega]; rfl
                  exact ⟨by rw [hh], ⟨_, _, rfl⟩⟩
                · have hfd : decide (P[i].next < (-1 : Int)) = false := by simpa using hf
                  go_quiet (fail)
                  go_wp2_with fail
                  go_meet
                  have hh : (!(endB P[i] (S.getD i false))) = false := by rw [endB, hu, hs2, show decide ((-1 : Int) ≤ P[i].next) = true by simp; omega]; rfl
                  exact ⟨by rw [hh], ⟨_, _, rfl⟩⟩
              · rw [hs2] at r0
                go_quiet (fail)
                go_wp2_with fail
                go_meet
                have hh : (!(endB P[i] (S.getD i false))) = true := by rw [endB, hu, hs2]; rfl
                exact ⟨by rw [hh], ⟨_, _, rfl⟩⟩
            · rcases (Bool.eq_false_or_eq_true (S.getD i false)) with hs2 | hs2
              · rw [hs2] at r0
                go_quiet (fail)
                go_wp2_with fail
                go_meet
                have hh : (!(endB P[i] (S.getD i false))) = true := by rw [endB, hu, hs2]; rfl
                exact ⟨by rw [hh], ⟨_, _, rfl⟩⟩
              · rw [hs2] at r0
                by_cases hd : P[i].data.size = 0
                · have hdl : P[i].data.toList = [] := by rw [ByteArray.toList_eq]; exact List.eq_nil_of_length_eq_zero (by simpa using hd)
                  by_cases hn : P[i].next = -1
                  · have hnb : (P[i].next != (-1 : Int)) = false := by simpa using hn
                    have hfd : decide (P[i].next < (-1 : Int)) = false := by simp; omega
                    go_quiet (fail)
                    go_wp2_with fail
                    go_meet
                    have hh : (!(endB P[i] (S.getD i false))) = false := by rw [endB, hu, hs2, show decide (P[i].data.size = 0) = true by simpa using hd, hn]; rfl
                    exact ⟨by rw [hh], ⟨_, _, rfl⟩⟩
                  · have hnb : (P[i].next != (-1 : Int)) = true := by simpa using hn
                    go_quiet (fail)
                    go_wp2_with fail
                    go_meet
                    have hh : (!(endB P[i] (S.getD i false))) = true := by rw [endB, hu, hs2, show decide (P[i].data.size = 0) = true by simpa using hd, show decide (P[i].next = (-1 : Int)) = false by simpa using hn]; rfl
                    exact ⟨by rw [hh], ⟨_, _, rfl⟩⟩
                · have hdl : ¬ P[i].data.toList = [] := fun e => hd (by rw [ByteArray.toList_eq] at e; have := congrArg List.length e; simpa using this)
                  go_quiet (fail)
                  go_wp2_with fail
                  go_meet
                  have hh : (!(endB P[i] (S.getD i false))) = true := by rw [endB, hu, hs2, show decide (P[i].data.size = 0) = false by simpa using hd]; rfl
                  exact ⟨by rw [hh], ⟨_, _, rfl⟩⟩
          case rest =>
            obtain ⟨rfl, HW⟩ := hcut
            obtain ⟨oq, nq, hnq⟩ := HW.out
            have HIw : Hid (OkI w #[.slice (some ⟨pb, po, none⟩) 96 pc, .slice na N.length nc] S wc) := by
              rw [hnq]
              exact HIq.out.step (below_drewN ((Below.refl _ _).alloc (Nat.le_refl _) _) _)
            clear hnq HW c0 c1 c2 r0
            cases hb : endB P[i] (S.getD i false) with
            | false =>
              have HV0 : Hid (specB P N = false) := by
                show _ = _
                rw [HV.out]
                refine decide_eq_false fun h => ?_
                have := h i hiP
                rw [hb] at this
                cases this
              go_wp2_with fail
              go_ret
              exact ⟨by rw [HV0.out]; rfl, HIw.out.below⟩
            | true =>
              have HB := hide hb
              go_wp2_with fail
              go_roundw
              case rel =>
                refine ⟨i + 1, by go_num, by omega, HIw, fun a ha hai => ?_⟩
                by_cases e : a = i
                · subst e; exact HB.out
                · exact HEi.out a ha (by omega)
              case measure => simp [intOf]; omega
        · obtain rfl : i = 96 := by omega
          have HV1 : Hid (specB P N = true) := by
            show _ = _
            rw [HV.out]
            exact decide_eq_true fun a ha => HEi.out a ha (by omega)
          go_wp2_with fail
          go_ret
          exact ⟨by rw [HV1.out]; rfl, HIq.out.below⟩

end Go.Proofs.YtblcmnlbapbebaaDoor
