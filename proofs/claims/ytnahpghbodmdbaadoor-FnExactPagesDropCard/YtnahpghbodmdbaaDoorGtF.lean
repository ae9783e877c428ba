/- The shelf's find: where a kept name is. -/
import Derived.Test.YtnahpghbodmdbaaDoorGtV
import Derived.Test.YtnahpghbodmdbaaDoorRc3
import Derived.Test.YtnahpghbodmdbaaDoorPgs
namespace Go.Proofs.YtnahpghbodmdbaaDoor
open Go.RowKit

def cmpT (x y : ByteArray) : Int := if Op.bytesLess x.toList y.toList then -1 else if Op.bytesLess y.toList x.toList then 1 else 0
theorem cmpT_lt {x y : ByteArray} (h : Op.bytesLess x.toList y.toList = true) : cmpT x y = -1 := by rw [cmpT, if_pos h]
theorem cmpT_nn {x y : ByteArray} (h : Op.bytesLess x.toList y.toList = false) : ¬ cmpT x y < 0 := by
  rw [cmpT, if_neg (by rw [h]; exact Bool.false_ne_true)]; split <;> omega
theorem cmpT_eq {x y : ByteArray} : cmpT x y = 0 ↔ x = y := by
  constructor
  · intro h
    have t := bytesLess_tri y.toList x.toList
    unfold cmpT at h
    split at h
    · omega
    · rename_i h1
      split at h
      · omega
      · rename_i h2
        have e1 : Op.bytesLess x.toList y.toList = false := by simpa using h1
        have e2 : Op.bytesLess y.toList x.toList = false := by simpa using h2
        rw [e1, e2] at t
        have : (x.toList == y.toList) = true := by simpa using t
        exact toList_inj (by simpa using this)
  · rintro rfl
    rw [cmpT, less_irrefl]; rfl

set_option maxHeartbeats 400000 in
theorem cmpCompT_any (x y : ByteArray) (w : World) : Calls Tryd.prog 63 #[.string x, .string y] w fun e w' => e = .returned (.int .i64 (cmpT x y)) ∧ w' = w := by
  have t := bytesLess_tri y.toList x.toList
  cases he : (x.toList == y.toList) <;> cases h1 : Op.bytesLess x.toList y.toList
  all_goals
    rw [h1, he] at t
    obtain ⟨r, hr⟩ : ∃ r, r = cmpT x y := ⟨_, rfl⟩
    rw [← hr]
    rw [cmpT, h1, t] at hr
    have HR := hide hr
    clear hr t
    go_enter Tryd.func63, Tryd.ntmps63
    go_wp2_with (go_at_call 72; refine (cmpNaN_any _ _).mono ?_; rintro e w ⟨rfl, rfl⟩)
    go_ret
    exact ⟨by rw [HR.out]; rfl, rfl⟩

set_option maxHeartbeats 400000 in
theorem findCmp_any (n : Pn) (s : ByteArray) (w : World) : Calls Tryd.prog 62 #[.agg #[.string n.name, .int .i64 n.first, .int .i64 n.size], .string s] w fun e w' => e = .returned (.int .i64 (cmpT n.name s)) ∧ Below w.heap.size w w' := by
  obtain ⟨nm, first, size⟩ := n
  show Calls Tryd.prog 62 #[.agg #[.string nm, .int .i64 first, .int .i64 size], .string s] w _
  have HC := hide (fun (W : World) => cmpCompT_any nm s W)
  dsimp only
  generalize cmpT nm s = c at HC
  have HA : Hid (∀ o, Below w.heap.size w (w.alloc o)) := fun o => (Below.refl _ _).alloc (Nat.le_refl _) o
  go_enter Tryd.func62, Tryd.ntmps62
  go_wp2_with (go_at_call 63; refine (HC.out _).mono ?_; rintro e w1 ⟨rfl, rfl⟩)
  go_ret
  exact ⟨rfl, HA.out _⟩

set_option maxHeartbeats 2000000 in
set_option maxRecDepth 100000 in
theorem bsf_any (N : List Pn) (hasc : Asc (N.map Pn.name)) (v : Value) (s : ByteArray) (w : World) (lo hi : Nat) (hv : RcsAt fPn w lo hi v N) (hhi : hi ≤ w.heap.size) (hN : N.length ≤ 16) :
    Calls Tryd.prog 61 #[v, .string s, .func (.func 62) #[] #[]] w fun e w' => ∃ pos : Nat, e = .returned (.tuple #[.int .i64 pos, .bool (hasB (N.map Pn.name) s)]) ∧ Found (N.map Pn.name) s pos ∧ Below w.heap.size w w' := by
  have HAs : Hid (∀ (p q : Nat) (hp : p < N.length) (hq : q < N.length), p < q → Op.bytesLess N[p].name.toList N[q].name.toList = true) := fun p q hp hq h => by
    have := hasc p q (by simpa using hp) (by simpa using hq) h
    rwa [List.getElem_map, List.getElem_map] at this
  have HNo : Hid ((∀ (p : Nat) (h : p < N.length), N[p].name ≠ s) → hasB (N.map Pn.name) s = false) := fun h => hasB_no fun p hp => by simpa using h p (by simpa using hp)
  have HYes : Hid (∀ (p : Nat) (h : p < N.length), N[p].name = s → hasB (N.map Pn.name) s = true) := fun p h e => hasB_yes (p := p) (by simpa using h) (by simpa using e)
  have HFd : Hid (∀ pos, pos ≤ N.length → (∀ (p : Nat) (h : p < N.length), p < pos → Op.bytesLess N[p].name.toList s.toList = true) → (∀ (p : Nat) (h : p < N.length), pos ≤ p → Op.bytesLess N[p].name.toList s.toList = false) → (hasB (N.map Pn.name) s = true → ∃ h : pos < N.length, N[pos].name = s) → (hasB (N.map Pn.name) s = false → ∀ (p : Nat) (h : p < N.length), N[p].name ≠ s) → Found (N.map Pn.name) s pos) := fun pos h1 h2 h3 h4 h5 =>
    ⟨by simpa using h1, fun p h hp => by simpa using h2 p (by simpa using h) hp, fun p h hp => by simpa using h3 p (by simpa using h) hp, fun h => by obtain ⟨q, e⟩ := h4 h; exact ⟨by simpa using q, by simpa using e⟩, fun h p hp => by simpa using h5 h p (by simpa using hp)⟩
  obtain ⟨a, cap, rfl, _, hc⟩ := hv
  clear hasc
  generalize hasB (N.map Pn.name) s = hb at HNo HYes HFd ⊢
  go_enter Tryd.func61, Tryd.ntmps61
  go_wp2
  go_loopw [9, 10] (fun x y wr => ∃ (i j : Nat), x = .int .i64 i ∧ y = .int .i64 j ∧ i ≤ j ∧ j ≤ N.length ∧ Hid (∀ (p : Nat) (h : p < N.length), p < i → Op.bytesLess N[p].name.toList s.toList = true) ∧ Hid (∀ (p : Nat) (h : p < N.length), j ≤ p → Op.bytesLess N[p].name.toList s.toList = false) ∧ Hid (Below w.heap.size w wr)) (fun x y _ => (intOf y).toNat - (intOf x).toNat)
  case atStart => exact ⟨0, N.length, rfl, rfl, Nat.zero_le _, Nat.le_refl _, fun p _ h => by omega, fun p h h' => by omega, Below.refl _ _⟩
  case round =>
    obtain ⟨i, j, rfl, rfl, hij, hj, HLo, HHi, HB⟩ := hrel
    by_cases hlt : i < j
    · obtain ⟨b, o, rfl, _, hb2, hcell⟩ := hc (by omega)
      have hltI : (i : Int) < (j : Int) := by omega
      have hmid : (i + j) / 2 < N.length := by omega
      obtain ⟨c0, c1, c2⟩ := hcell ((i + j) / 2) hmid
      rw [← HB.out.cell (p := ⟨b, _, none⟩) (by show b < w.heap.size; omega)] at c0 c1 c2
      simp only [fPn] at c0 c1 c2
      clear hc hcell
      cases hls : Op.bytesLess N[(i + j) / 2].name.toList s.toList with
      | true =>
        have HLs : Hid (Op.bytesLess N[(i + j) / 2].name.toList s.toList = true) := hls
        have HC : Hid (Calls Tryd.prog 62 #[.agg #[.string N[(i + j) / 2].name, .int .i64 N[(i + j) / 2].first, .int .i64 N[(i + j) / 2].size], .string s] wr fun e w' => e = .returned (.int .i64 (-1)) ∧ Below w.heap.size w w') := by
          refine (findCmp_any N[(i + j) / 2] s wr).mono ?_
          rintro e w' ⟨h1, h2⟩
          exact ⟨by rw [h1, cmpT_lt hls], HB.out.trans (h2.mono HB.out.size)⟩
        clear hls
        go_wp2_with (go_at_call 62; refine HC.out.mono ?_; rintro e w1 ⟨rfl, hB1⟩; have HB1 := hide hB1; clear hB1)
        go_roundw
        case rel =>
          refine ⟨(i + j) / 2 + 1, j, by go_num, rfl, by omega, hj, ?_, HHi, HB1⟩
          intro p hp hlt2
          by_cases e : p = (i + j) / 2
          · subst e; exact HLs.out
          · exact bytesLess_trans _ _ _ (HAs.out p ((i + j) / 2) hp hmid (by omega)) HLs.out
        case measure => simp [intOf]; omega
      | false =>
        have HLs : Hid (Op.bytesLess N[(i + j) / 2].name.toList s.toList = false) := hls
        obtain ⟨cv, hcv, HC⟩ : ∃ cv : Int, ¬ cv < 0 ∧ Hid (Calls Tryd.prog 62 #[.agg #[.string N[(i + j) / 2].name, .int .i64 N[(i + j) / 2].first, .int .i64 N[(i + j) / 2].size], .string s] wr fun e w' => e = .returned (.int .i64 cv) ∧ Below w.heap.size w w') := by
          refine ⟨_, cmpT_nn hls, (findCmp_any N[(i + j) / 2] s wr).mono ?_⟩
          rintro e w' ⟨h1, h2⟩
          exact ⟨h1, HB.out.trans (h2.mono HB.out.size)⟩
        clear hls
        go_wp2_with (go_at_call 62; refine HC.out.mono ?_; rintro e w1 ⟨rfl, hB1⟩; have HB1 := hide hB1; clear hB1)
        go_roundw
        case rel =>
          refine ⟨i, (i + j) / 2, rfl, by go_num, by omega, by omega, HLo, ?_, HB1⟩
          intro p hp hle
          by_cases e : p = (i + j) / 2
          · subst e; exact HLs.out
          · cases h : Op.bytesLess N[p].name.toList s.toList with
            | false => rfl
            | true =>
              have := bytesLess_trans _ _ _ (HAs.out ((i + j) / 2) p hmid hp (by omega)) h
              rw [HLs.out] at this
              cases this
        case measure => simp [intOf]; omega
    · have e1 : j = i := by omega
      subst e1
      have hdj : decide ((j : Int) < (j : Int)) = false := by simp
      by_cases hend : j < N.length
      · obtain ⟨b, o, rfl, _, hb2, hcell⟩ := hc (by omega)
        obtain ⟨c0, c1, c2⟩ := hcell j hend
        rw [← HB.out.cell (p := ⟨b, _, none⟩) (by show b < w.heap.size; omega)] at c0 c1 c2
        simp only [fPn] at c0 c1 c2
        have hendI : (j : Int) < (N.length : Int) := by omega
        clear hc hcell
        obtain ⟨cv, HCv, HC⟩ : ∃ cv : Int, Hid (cv = 0 ↔ N[j].name = s) ∧ Hid (Calls Tryd.prog 62 #[.agg #[.string N[j].name, .int .i64 N[j].first, .int .i64 N[j].size], .string s] wr fun e w' => e = .returned (.int .i64 cv) ∧ Below w.heap.size w w') := by
          refine ⟨_, cmpT_eq, (findCmp_any N[j] s wr).mono ?_⟩
          rintro e w' ⟨h1, h2⟩
          exact ⟨h1, HB.out.trans (h2.mono HB.out.size)⟩
        have HRes : Hid (hb = (cv == 0) ∧ Found (N.map Pn.name) s j) := by
          by_cases h0 : cv = 0
          · have hs := HCv.out.1 h0
            have hb1 := HYes.out j hend hs
            subst h0 hb1
            exact ⟨rfl, HFd.out j hj HLo.out HHi.out (fun _ => ⟨hend, hs⟩) (fun h => by cases h)⟩
          · have hno : ∀ (p : Nat) (h : p < N.length), N[p].name ≠ s := fun p hp hps => by
              rcases Nat.lt_trichotomy p j with h | h | h
              · have := HLo.out p hp h; rw [hps, less_irrefl] at this; cases this
              · subst h; exact h0 (HCv.out.2 hps)
              · have h1 := HAs.out j p hend hp h
                have h2 := HHi.out j hend (Nat.le_refl _)
                rw [hps] at h1
                rw [h1] at h2; cases h2
            have hb1 := HNo.out hno
            subst hb1
            exact ⟨by simp [h0], HFd.out j hj HLo.out HHi.out (fun h => by cases h) (fun _ => hno)⟩
        go_wp2_with (go_at_call 62; refine HC.out.mono ?_; rintro e w1 ⟨rfl, hB1⟩; have HB1 := hide hB1; clear hB1)
        go_ret2
        exact ⟨j, by rw [HRes.out.1]; rfl, HRes.out.2, HB1.out⟩
      · have hdl : decide ((j : Int) < (N.length : Int)) = false := by simp; omega
        have hdn : decide (j < N.length) = false := by simp; omega
        have hno : ∀ (p : Nat) (h : p < N.length), N[p].name ≠ s := fun p hp hps => by
          have := HLo.out p hp (by omega); rw [hps, less_irrefl] at this; cases this
        have hb1 := HNo.out hno
        subst hb1
        have HF := hide (HFd.out j hj HLo.out HHi.out (fun h => by cases h) (fun _ => hno))
        clear hno hc
        go_wp2_with fail
        go_ret2
        exact ⟨j, rfl, HF.out, HB.out⟩

set_option maxHeartbeats 1000000 in
theorem find_any (N : List Pn) (hasc : Asc (N.map Pn.name)) (v : Value) (s : ByteArray) (sb : Nat) (w : World) (lo hi : Nat) (hv : RcsAt fPn w lo hi v N) (hhi : hi ≤ w.heap.size) (hN : N.length ≤ 16) (hc : w.cell? ⟨sb, 1, none⟩ = some v) :
    Calls Tryd.prog 47 #[.pointer (some ⟨sb, 0, none⟩), .string s] w fun e w' => ∃ pos : Nat, e = .returned (.tuple #[.int .i64 pos, .bool (hasB (N.map Pn.name) s)]) ∧ Found (N.map Pn.name) s pos ∧ Below w.heap.size w w' := by
  have HB := hide (bsf_any N hasc v s w lo hi hv hhi hN)
  obtain ⟨a, cap, rfl, _⟩ := hv
  generalize hasB (N.map Pn.name) s = hb at HB ⊢
  clear hasc
  go_enter Tryd.func47, Tryd.ntmps47
  go_wp2_with fail
  refine HB.out.mono ?_
  rintro e w1 ⟨pos, rfl, hF, hB1⟩
  have HF := hide hF
  have HB1 := hide hB1
  clear hF hB1
  go_wp2_with fail
  go_ret2
  exact ⟨pos, rfl, HF.out, HB1.out⟩

end Go.Proofs.YtnahpghbodmdbaaDoor
