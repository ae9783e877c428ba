/- The program's areNames. -/
import Derived.Test.YtblcmnlbapbebaaDoorPgSO
namespace Go.Proofs.YtblcmnlbapbebaaDoor
open Go.RowKit

def headA (pr : Option ByteArray) (n : Pn) : Bool := nameB n.name && prB pr n.name && decide (0 ≤ n.size) && decide (n.size ≤ 3000)
theorem areB_at (N : List Pn) (k : Nat) (h : k < N.length) : areB (prevB N k) (N.drop k) = (headA (prevB N k) N[k] && areB (prevB N (k + 1)) (N.drop (k + 1))) := by
  rw [List.drop_eq_getElem_cons h, areB]
  have e : prevB N (k + 1) = some N[k].name := by
    rw [prevB, if_neg (by omega), Nat.add_sub_cancel, List.getElem?_eq_getElem h]; rfl
  rw [e]
  rfl

/-- Another text is behind this one. -/
theorem less_flip (a b : ByteArray) : (Op.bytesLess b.toList a.toList || (b.toList == a.toList)) = !(Op.bytesLess a.toList b.toList) := by
  have := bytesLess_tri a.toList b.toList
  rw [this]; simp

set_option maxHeartbeats 8000000 in
set_option maxRecDepth 100000 in
theorem areNames_any (N : List Pn) (nv : Value) (w : World) (lo hi : Nat) (hn : RcsAt fPn w lo hi nv N) (hhi : hi ≤ w.heap.size) (hsn : ∀ (i : Nat) (h : i < N.length), N[i].name.size ≤ maxLen) :
    Calls Tryd.prog 28 #[nv] w fun e w' => e = .returned (.bool (decide (N.length ≤ 16) && areB none N)) ∧ Below w.heap.size w w' := by
  have hNl := hn.len
  unfold maxLen at hNl
  have HN := hide hn
  have HS := hide hsn
  obtain ⟨na, nc, rfl⟩ : ∃ a c, nv = .slice a N.length c := by obtain ⟨a, c, e, _⟩ := hn; exact ⟨_, _, e⟩
  clear hn hsn
  by_cases hN16 : N.length ≤ 16
  case neg =>
    have hgt : (16 : Int) < (N.length : Int) := by omega
    have hd : decide (N.length ≤ 16) = false := by simpa using hN16
    rw [hd]
    go_enter Tryd.func28, Tryd.ntmps28
    go_wp2_with fail
    go_ret
    exact ⟨rfl, Below.refl _ _⟩
  have hgt : ¬ (16 : Int) < (N.length : Int) := by omega
  have HV : Hid ((decide (N.length ≤ 16) && areB none N) = areB (prevB N 0) (N.drop 0)) := by
    show _ = _
    rw [show decide (N.length ≤ 16) = true by simpa using hN16, prevB, if_pos rfl, List.drop_zero]; rfl
  generalize (decide (N.length ≤ 16) && areB none N) = res at HV ⊢
  go_enter Tryd.func28, Tryd.ntmps28
  go_wp2_with fail
  go_loopw [10] (fun iv wr => ∃ (k : Nat), iv = .int .i64 k ∧ k ≤ N.length ∧ Hid (Below w.heap.size w wr) ∧ Hid (res = areB (prevB N k) (N.drop k))) (fun iv _ => N.length - (intOf iv).toNat)
  case atStart => exact ⟨0, rfl, Nat.zero_le _, Below.refl _ _, HV⟩
  case round =>
    obtain ⟨k, rfl, hk, HB, HE⟩ := hrel
    by_cases hlt : k < N.length
    · have hltI : (k : Int) < (N.length : Int) := by omega
      obtain ⟨nb, no, hnb, rfl, hcell⟩ : ∃ b o, b < w.heap.size ∧ na = some ⟨b, o, none⟩ ∧ ∀ (i : Nat) (h : i < N.length), wr.cell? ⟨b, o + i * 3, none⟩ = some (.string N[i].name) ∧ wr.cell? ⟨b, o + i * 3 + 1, none⟩ = some (.int .i64 N[i].first) ∧ wr.cell? ⟨b, o + i * 3 + 2, none⟩ = some (.int .i64 N[i].size) := by
        obtain ⟨a, cap, e, _, hc⟩ := HN.out
        simp only [Value.slice.injEq] at e
        obtain ⟨rfl, _, _⟩ := e
        obtain ⟨b, o, h1, h2, h3, h4⟩ := hc (by omega)
        have hbl : b < w.heap.size := by omega
        refine ⟨b, o, hbl, h1, fun i hi => ?_⟩
        obtain ⟨q0, q1, q2⟩ := h4 i hi
        exact ⟨(HB.out.cell (p := ⟨b, o + i * 3, none⟩) hbl).trans q0, (HB.out.cell (p := ⟨b, o + i * 3 + 1, none⟩) hbl).trans q1, (HB.out.cell (p := ⟨b, o + i * 3 + 2, none⟩) hbl).trans q2⟩
      obtain ⟨y0, y1, y2⟩ := hcell k hlt
      have HCell := hide hcell
      clear hcell
      have HEk := hide (areB_at N k hlt)
      have hnbw : nb < wr.heap.size := Nat.lt_of_lt_of_le hnb HB.out.size
      go_upto_region 6 with fail
      go_cut [43] from 11 to 43 (fun c wx => c = .bool (!(headA (prevB N k) N[k])) ∧ Hid (∃ o n, wx = (wr.alloc o).drewN n))
      case first =>
        have HNm : Hid (∀ u, Calls Tryd.prog 40 #[.string N[k].name] u fun e w' => e = .returned (.bool (nameB N[k].name)) ∧ w' = u) := fun u => isName_any _ u (HS.out k hlt)
        cases hnb2 : nameB N[k].name with
        | false =>
          have HNm' : Hid (∀ u, Calls Tryd.prog 40 #[.string N[k].name] u fun e w' => e = .returned (.bool false) ∧ w' = u) := fun u => by have := HNm.out u; rwa [hnb2] at this
          go_quiet ((go_at_call 40; exact Calls.quiet_of_same (HNm'.out _)))
          go_wp2_with fail
          go_meet
          have hh : (!(headA (prevB N k) N[k])) = true := by rw [headA, hnb2]; rfl
          exact ⟨by rw [hh], ⟨_, _, rfl⟩⟩
        | true =>
          have HNm' : Hid (∀ u, Calls Tryd.prog 40 #[.string N[k].name] u fun e w' => e = .returned (.bool true) ∧ w' = u) := fun u => by have := HNm.out u; rwa [hnb2] at this
          rcases Nat.eq_zero_or_pos k with hk0 | hpos
          · subst hk0
            have hpr : prB (prevB N 0) N[0].name = true := by rw [prevB, if_pos rfl]; rfl
            by_cases hs0 : N[0].size < 0
            · have hs0d : decide (N[0].size < (0 : Int)) = true := by simpa using hs0
              go_quiet ((go_at_call 40; exact Calls.quiet_of_same (HNm'.out _)))
              go_wp2_with fail
              go_meet
              have hh : (!(headA (prevB N (0)) N[0])) = true := by rw [headA, hnb2, hpr, show decide ((0 : Int) ≤ N[0].size) = false by simp; omega]; rfl
              exact ⟨by rw [hh], ⟨_, _, rfl⟩⟩
            · have hs0d : decide (N[0].size < (0 : Int)) = false := by simpa using hs0
              by_cases hs1 : 3000 < N[0].size
              · have hs1d : decide ((3000 : Int) < N[0].size) = true := by simpa using hs1
                go_quiet ((go_at_call 40; exact Calls.quiet_of_same (HNm'.out _)))
                go_wp2_with fail
                go_meet
                have hh : (!(headA (prevB N (0)) N[0])) = true := by rw [headA, hnb2, hpr, show decide ((0 : Int) ≤ N[0].size) = true by simp; omega, show decide (N[0].size ≤ (3000 : Int)) = false by simp; omega]; rfl
                exact ⟨by rw [hh], ⟨_, _, rfl⟩⟩
              · have hs1d : decide ((3000 : Int) < N[0].size) = false := by simpa using hs1
                go_quiet ((go_at_call 40; exact Calls.quiet_of_same (HNm'.out _)))
                go_wp2_with fail
                go_meet
                have hh : (!(headA (prevB N (0)) N[0])) = false := by rw [headA, hnb2, hpr, show decide ((0 : Int) ≤ N[0].size) = true by simp; omega, show decide (N[0].size ≤ (3000 : Int)) = true by simp; omega]; rfl
                exact ⟨by rw [hh], ⟨_, _, rfl⟩⟩
          · obtain ⟨j, rfl⟩ : ∃ j, k = j + 1 := ⟨k - 1, by omega⟩
            obtain ⟨z0, _, _⟩ := HCell.out j (by omega)
            have hp0 : (0 : Int) < ((j + 1 : Nat) : Int) := by omega
            have hwj : IntKind.i64.wrap (j : Int) = (j : Int) := by rw [IntKind.wrap_i64]; omega
            have hjI : (j : Int) < (N.length : Int) := by omega
            have hprv : prB (prevB N (j + 1)) N[j + 1].name = Op.bytesLess N[j].name.toList N[j + 1].name.toList := by
              rw [prevB, if_neg (by omega), Nat.add_sub_cancel, List.getElem?_eq_getElem (by omega)]; rfl
            have hfl := less_flip N[j].name N[j + 1].name
            cases hls : Op.bytesLess N[j].name.toList N[j + 1].name.toList with
            | false =>
              rw [hls] at hfl
              go_quiet ((go_at_call 40; exact Calls.quiet_of_same (HNm'.out _)))
              go_wp2_with fail
              go_meet
              have hh : (!(headA (prevB N (j + 1)) N[j + 1])) = true := by rw [headA, hnb2, hprv, hls]; rfl
              exact ⟨by rw [hh], ⟨_, _, rfl⟩⟩
            | true =>
              rw [hls] at hprv hfl
              by_cases hs0 : N[j + 1].size < 0
              · have hs0d : decide (N[j + 1].size < (0 : Int)) = true := by simpa using hs0
                go_quiet ((go_at_call 40; exact Calls.quiet_of_same (HNm'.out _)))
                go_wp2_with fail
                go_meet
                have hh : (!(headA (prevB N (j + 1)) N[j + 1])) = true := by rw [headA, hnb2, hprv, show decide ((0 : Int) ≤ N[j + 1].size) = false by simp; omega]; rfl
                exact ⟨by rw [hh], ⟨_, _, rfl⟩⟩
              · have hs0d : decide (N[j + 1].size < (0 : Int)) = false := by simpa using hs0
                by_cases hs1 : 3000 < N[j + 1].size
                · have hs1d : decide ((3000 : Int) < N[j + 1].size) = true := by simpa using hs1
                  go_quiet ((go_at_call 40; exact Calls.quiet_of_same (HNm'.out _)))
                  go_wp2_with fail
                  go_meet
                  have hh : (!(headA (prevB N (j + 1)) N[j + 1])) = true := by rw [headA, hnb2, hprv, show decide ((0 : Int) ≤ N[j + 1].size) = true by simp; omega, show decide (N[j + 1].size ≤ (3000 : Int)) = false by simp; omega]; rfl
                  exact ⟨by rw [hh], ⟨_, _, rfl⟩⟩
                · have hs1d : decide ((3000 : Int) < N[j + 1].size) = false := by simpa using hs1
                  go_quiet ((go_at_call 40; exact Calls.quiet_of_same (HNm'.out _)))
                  go_wp2_with fail
                  go_meet
                  have hh : (!(headA (prevB N (j + 1)) N[j + 1])) = false := by rw [headA, hnb2, hprv, show decide ((0 : Int) ≤ N[j + 1].size) = true by simp; omega, show decide (N[j + 1].size ≤ (3000 : Int)) = true by simp; omega]; rfl
                  exact ⟨by rw [hh], ⟨_, _, rfl⟩⟩
      case rest =>
        obtain ⟨rfl, HW⟩ := hcut
        obtain ⟨oq, nq, hnq⟩ := HW.out
        have HB2 : Hid (Below w.heap.size w wc) := by
          rw [hnq]; exact HB.out.trans ((below_drewN ((Below.refl _ _).alloc (Nat.le_refl _) _) _).mono HB.out.size)
        clear hnq HW
        cases hh : headA (prevB N k) N[k] with
        | false =>
          have HR : Hid (res = false) := by show _ = _; rw [HE.out, HEk.out, hh]; rfl
          go_wp2_with fail
          go_ret
          exact ⟨by rw [HR.out]; rfl, HB2.out⟩
        | true =>
          have HR : Hid (res = areB (prevB N (k + 1)) (N.drop (k + 1))) := by show _ = _; rw [HE.out, HEk.out, hh]; rfl
          go_wp2_with fail
          go_roundw
          case rel => exact ⟨k + 1, by go_num, by omega, HB2, HR⟩
          case measure => simp [intOf]; omega
    · have HR : Hid (res = true) := by show _ = _; rw [HE.out, List.drop_eq_nil_of_le (by omega)]; rfl
      go_wp2_with fail
      go_ret
      exact ⟨by rw [HR.out]; rfl, HB.out⟩

end Go.Proofs.YtblcmnlbapbebaaDoor
