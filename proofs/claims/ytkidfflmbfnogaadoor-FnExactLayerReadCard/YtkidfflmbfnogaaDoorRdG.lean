/- readEntry: its walk, of a form that has a mode and data. -/
import Derived.Test.YtkidfflmbfnogaaDoorRdF
namespace Go.Proofs.YtkidfflmbfnogaaDoor
open Go.RowKit

set_option maxRecDepth 100000 in
set_option maxHeartbeats 4000000 in
theorem entry_both (B ad cap : Nat) (a b c f s : ByteArray) (wt : Int) (d : Bool) (w : World) (hwt : 0 ≤ wt ∧ wt ≤ 4) (hlt : ad < w.heap.size) (ha : w.cell? ⟨ad, 0, none⟩ = some (.string a)) (hb : w.cell? ⟨ad, 1, none⟩ = some (.string b)) (hc : w.cell? ⟨ad, 2, none⟩ = some (.string c)) (hf : w.cell? ⟨ad, 3, none⟩ = some (.string f)) (zb : b.size ≤ 1048576) (zc : c.size ≤ 1048576) (zf : f.size ≤ 1048576) (hF : FormsAt w) (hE : Env B w) (hB : B ≤ w.heap.size)
    (hform : formN a = formT s wt d true true true) (r : Option Ent) (hr : (pathR b).bind (fun p => if modeB c = true then (dataV f).bind (fun x => chk ⟨p, wt, d, modeS c, x⟩) else none) = r) :
    Calls Tryd.prog 12 #[.slice (some ⟨ad, 0, none⟩) 4 cap] w fun e w' => Below w.heap.size w w' ∧ ReadEn r w e w' := by
  have HR := hide hr
  clear hr
  have HC0 : Hid (∀ W, Below w.heap.size w W → W.cell? ⟨ad, 0, none⟩ = some (.string a)) := fun W h => (h.cell (p := ⟨ad, 0, none⟩) hlt).trans ha
  have HC1 : Hid (∀ W, Below w.heap.size w W → W.cell? ⟨ad, 1, none⟩ = some (.string b)) := fun W h => (h.cell (p := ⟨ad, 1, none⟩) hlt).trans hb
  have HC2 : Hid (∀ W, Below w.heap.size w W → W.cell? ⟨ad, 2, none⟩ = some (.string c)) := fun W h => (h.cell (p := ⟨ad, 2, none⟩) hlt).trans hc
  have HC3 : Hid (∀ W, Below w.heap.size w W → W.cell? ⟨ad, 3, none⟩ = some (.string f)) := fun W h => (h.cell (p := ⟨ad, 3, none⟩) hlt).trans hf
  have HFk : Hid (∀ W, Below w.heap.size w W → FormsAt W) := fun W h => hF.keep h
  have HEk : Hid (∀ W, Below w.heap.size w W → Env B W ∧ B ≤ W.heap.size) := fun W h => ⟨hE.keep (h.mono hB), Nat.le_trans hB h.size⟩
  have HFN : Hid (∀ W, FormsAt W → Calls Tryd.prog 22 #[.string a] W fun e w' => e = .returned (formT s wt d true true true) ∧ Below W.heap.size W w') := fun W h => by
    have := formNamed_any a W h
    rwa [hform] at this
  clear hF hE hform ha hb hc hf
  have HA : Hid (∀ o, Below w.heap.size w (w.alloc o)) := fun o => (Below.refl _ _).alloc (Nat.le_refl _) o
  have g0 : ∀ o, (w.alloc o).cell? ⟨ad, 0, none⟩ = some (.string a) := fun o => HC0.out _ (HA.out o)
  go_enter Tryd.func12, Tryd.ntmps12
  go_wp2_with fail
  refine (HFN.out _ (HFk.out _ (HA.out _))).mono ?_
  rintro e w2 ⟨rfl, hB2⟩
  have HB2 : Hid (Below w.heap.size w w2) := (HA.out _).trans (hB2.mono (by simp))
  have b0 : Blk w2 w.heap.size zeroE' 31 := (Blk.new w _ _).below hB2 (by simp)
  have hz2 : w.heap.size < w2.heap.size := b0.lt
  have HF2 : Hid (FormsAt w2) := HFk.out _ HB2.out
  clear hB2
  go_wp2_with fail
  obtain ⟨W3, hW3⟩ : ∃ W3, w2.alloc (.cells #[.string s, .int .i64 wt, .bool d, .bool true, .bool true] 48) = W3 := ⟨_, rfl⟩
  rw [hW3]
  have HB3 : Hid (Below w.heap.size w W3 ∧ Blk W3 w.heap.size zeroE' 31 ∧ Blk W3 w2.heap.size #[.string s, .int .i64 wt, .bool d, .bool true, .bool true] 48 ∧ W3.heap.size = w2.heap.size + 1) := by
    subst hW3
    exact ⟨HB2.out.alloc (by omega) _, b0.alloc _, Blk.new _ _ _, by simp⟩
  clear hW3 b0
  refine (words_any s wt d true true W3).mono ?_
  rintro e w4 ⟨rfl, hB4⟩
  have HB4 : Hid (Below w.heap.size w w4 ∧ Blk w4 w.heap.size zeroE' 31 ∧ Blk w4 w2.heap.size #[.string s, .int .i64 wt, .bool d, .bool true, .bool true] 48 ∧ w2.heap.size < w4.heap.size) := by
    obtain ⟨q1, q2, q3, q4⟩ := HB3.out
    exact ⟨q1.trans (hB4.mono q1.size), q2.below hB4 q2.lt, q3.below hB4 q3.lt, by have := hB4.size; omega⟩
  have hz4 : w2.heap.size < w4.heap.size := HB4.out.2.2.2
  have g1 : w4.cell? ⟨ad, 1, none⟩ = some (.string b) := HC1.out _ HB4.out.1
  clear hB4 HB3 HF2 HFN
  go_wp2_with fail
  refine (readPath_at b w4 zb).mono ?_
  rintro e w5 ⟨pa, pn, pc, rfl, hB5, hp⟩
  have HB5 : Hid (Below w.heap.size w w5 ∧ Blk w5 w.heap.size zeroE' 31 ∧ Blk w5 w2.heap.size #[.string s, .int .i64 wt, .bool d, .bool true, .bool true] 48 ∧ w2.heap.size < w5.heap.size) := by
    obtain ⟨q1, q2, q3, q4⟩ := HB4.out
    exact ⟨q1.trans (hB5.mono q1.size), q2.below hB5 q2.lt, q3.below hB5 q3.lt, by have := hB5.size; omega⟩
  have HPt : Hid (∀ p, pathR b = some p → pn = p.length ∧ w5.ownsRow (w.heap.size + 1) 9 1 (.slice pa pn pc) pn (p.map .string) ∧ w5.ownsRow w4.heap.size 9 1 (.slice pa pn pc) pn (p.map .string)) := fun p hq => ⟨(hp p hq).1, row_less (hp p hq).2 (by omega), (hp p hq).2⟩
  have hz5 : w2.heap.size < w5.heap.size := HB5.out.2.2.2
  have hz45 : w4.heap.size ≤ w5.heap.size := hB5.size
  have f1 := HB5.out.2.2.1.cell 1 _ rfl
  have f2 := HB5.out.2.2.1.cell 2 _ rfl
  have f3 : ∀ o, (w5.alloc o).cell? ⟨w2.heap.size, 3, none⟩ = some (.bool true) := fun o => (HB5.out.2.2.1.alloc o).cell 3 _ rfl
  have f4 : ∀ o, (w5.alloc o).cell? ⟨w2.heap.size, 4, none⟩ = some (.bool true) := fun o => (HB5.out.2.2.1.alloc o).cell 4 _ rfl
  have HA5 : Hid (∀ o, Below w.heap.size w (w5.alloc o)) := fun o => HB5.out.1.alloc HB5.out.1.size o
  clear hB5 hp HB4 g1
  generalize hnp : (pathR b).isSome = np at *

  have g2 : ∀ o, (w5.alloc o).cell? ⟨ad, 2, none⟩ = some (.string c) := fun o => HC2.out _ (HA5.out o)
  go_wp2_with fail
  refine (readMode_any B c _ zc (HEk.out _ (HA5.out _)).1 (HEk.out _ (HA5.out _)).2).mono ?_
  rintro e w6 ⟨rfl, hB6⟩
  have e6 : Blk w6 w5.heap.size #[.slice pa pn pc, .int .i64 wt, .bool d, .int .i64 0, .string ⟨#[]⟩] 31 := (Blk.new w5 _ _).below hB6 (by simp)
  have HB6 : Hid (Below w5.heap.size w5 w6) := ((Below.refl _ _).alloc (Nat.le_refl _) _).trans (hB6.mono (by simp))
  have E6 := hide e6
  have y3 := e6.cell 3 _ rfl
  have v3 := e6.frozen 3
  have hz6 : w5.heap.size < w6.heap.size := e6.lt
  have k4 : ∀ u, (w6.setCell ⟨w5.heap.size, 3, none⟩ u).cell? ⟨w2.heap.size, 4, none⟩ = some (.bool true) := fun u => ((HB5.out.2.2.1.below HB6.out HB5.out.2.2.1.lt).other _ _ (by show w2.heap.size ≠ w5.heap.size; omega)).cell 4 _ rfl
  have HA6 : Hid (∀ u, Below w.heap.size w (w6.setCell ⟨w5.heap.size, 3, none⟩ u)) := fun u => (HB5.out.1.trans (HB6.out.mono HB5.out.1.size)).setCell (p := ⟨w5.heap.size, 3, none⟩) HB5.out.1.size u
  generalize hmv : (numV c).getD 0 = mv at *
  generalize hmb : modeB c = mb at *
  clear hB6 e6 f1 f2 f3 f4 g2

  have g3 : ∀ u, (w6.setCell ⟨w5.heap.size, 3, none⟩ u).cell? ⟨ad, 3, none⟩ = some (.string f) := fun u => HC3.out _ (HA6.out u)

  go_wp2_with fail
  refine (readData_any f _ zf).mono ?_
  rintro e w7 ⟨rfl, hB7⟩
  have e7 : Blk w7 w5.heap.size #[.slice pa pn pc, .int .i64 wt, .bool d, .int .i64 mv, .string ⟨#[]⟩] 31 := (E6.out.set 3 _).below hB7 (by simp [World.setCell]; omega)
  have HB7 : Hid (Below w5.heap.size w5 w7) := (HB6.out.setCell (p := ⟨w5.heap.size, 3, none⟩) (Nat.le_refl _) _).trans (hB7.mono (by simp [World.setCell]; omega))
  have E7 := hide e7
  have y4 := e7.cell 4 _ rfl
  have v4 := e7.frozen 4
  generalize hdv : (dataV f).getD ⟨#[]⟩ = dv at *
  generalize hdb : (dataV f).isSome = db at *
  clear hB7 e7

  go_wp2_with fail
  obtain ⟨V, hV⟩ : ∃ V, (w7.setCell ⟨w5.heap.size, 4, none⟩ (.string dv)) = V := ⟨_, rfl⟩
  rw [hV]
  have EV : Hid (Blk V w5.heap.size #[.slice pa pn pc, .int .i64 wt, .bool d, .int .i64 mv, .string dv] 31) := by subst hV; exact (E7.out.set 4 _)
  have HV5 : Hid (Below w5.heap.size w5 V) := by subst hV; exact (HB7.out.setCell (p := ⟨w5.heap.size, 4, none⟩) (Nat.le_refl _) _)
  clear hV
  have HV : Hid (Below w.heap.size w V) := HB5.out.1.trans (HV5.out.mono HB5.out.1.size)
  have RV : Hid (Blk V w.heap.size zeroE' 31) := HB5.out.2.1.below HV5.out HB5.out.2.1.lt
  have PV : Hid (∀ W, Below w5.heap.size w5 W → ∀ p, pathR b = some p → pn = p.length ∧ W.ownsRow (w.heap.size + 1) 9 1 (.slice pa pn pc) pn (p.map .string)) := fun W hW p hq => ⟨(HPt.out p hq).1, ownsRow_same (HPt.out p hq).2.1 (fun g hg => hW.block g (row_lt5 (HPt.out p hq).2.2 g hg))⟩
  have x0 := EV.out.cell 0 _ rfl
  have x1 := EV.out.cell 1 _ rfl
  have x2 := EV.out.cell 2 _ rfl
  have x3 := EV.out.cell 3 _ rfl
  have x4 := EV.out.cell 4 _ rfl
  have r0 := RV.out.cell 0 _ rfl
  have r1 := RV.out.cell 1 _ rfl
  have r2 := RV.out.cell 2 _ rfl
  have r3 := RV.out.cell 3 _ rfl
  have r4 := RV.out.cell 4 _ rfl
  have rf : ∀ j, V.frozen? ⟨w.heap.size, j, none⟩ = false := fun j => RV.out.frozen j
  have hzV : w5.heap.size < V.heap.size := EV.out.lt
  have HS : Hid (∀ W v0 v1 v2 v3 v4, Below w.heap.size w W → Below w.heap.size w (set5 W w.heap.size 0 v0 v1 v2 v3 v4)) := fun W v0 v1 v2 v3 v4 h => set5_below h (Nat.le_refl _) 0 v0 v1 v2 v3 v4
  cases np with
  | false =>
    have hq : pathR b = none := by
      cases h : pathR b with
      | none => rfl
      | some p => rw [h] at hnp; cases hnp
    have HN : Hid (r = none) := by
      have := HR.out
      rw [hq] at this
      exact this.symm
    clear HR
    go_region
    go_wp2_with fail
    refine bodyPost_ret (v := .tuple #[.agg #[.slice pa pn pc, .int .i64 wt, .bool d, .int .i64 mv, .string dv], .bool false]) (by simp [results, Tryd.results12, go_sem, r0, r1, r2, r3, r4]) rfl ⟨(HS.out _ _ _ _ _ _ HV.out).drew, ?_⟩
    unfold ReadEn
    rw [HN.out]
    exact ⟨_, _, _, _, _, _, _, rfl⟩
  | true =>
    obtain ⟨p, hq⟩ : ∃ p, pathR b = some p := by
      cases h : pathR b with
      | none => rw [h] at hnp; cases hnp
      | some p => exact ⟨p, rfl⟩
    obtain ⟨hpn, hrow⟩ := PV.out V HV5.out p hq
    subst hpn
    rw [hq, Option.bind_some] at HR
    have HPs := hide (path_sizes hq)
    have HPQ : Hid (∀ W, Below w5.heap.size w5 W → W.ownsRow (w.heap.size + 1) 9 1 (.slice pa p.length pc) p.length (p.map .string)) := fun W hW => (PV.out W hW p hq).2
    have hpc := row_cap hrow
    clear hq PV HPt hnp hrow
    cases mb with
    | false =>
      have HN : Hid (r = none) := by
        have := HR.out
        rw [if_neg (by decide)] at this
        exact this.symm
      clear HR
      go_region
      go_wp2_with fail
      refine bodyPost_ret (v := .tuple #[.agg #[.slice pa p.length pc, .int .i64 wt, .bool d, .int .i64 mv, .string dv], .bool false]) (by simp [results, Tryd.results12, go_sem, r0, r1, r2, r3, r4]) rfl ⟨(HS.out _ _ _ _ _ _ HV.out).drew, ?_⟩
      unfold ReadEn
      rw [HN.out]
      exact ⟨_, _, _, _, _, _, _, rfl⟩
    | true =>
      have HM7 := hide (mode_val hmb hmv)
      rw [if_pos rfl] at HR
      cases db with
      | false =>
        have HN : Hid (r = none) := by
          have h1 : dataV f = none := by
            cases h : dataV f with
            | none => rfl
            | some y => rw [h] at hdb; cases hdb
          have := HR.out
          rw [h1] at this
          exact this.symm
        clear HR
        go_region
        go_wp2_with fail
        refine bodyPost_ret (v := .tuple #[.agg #[.slice pa p.length pc, .int .i64 wt, .bool d, .int .i64 mv, .string dv], .bool false]) (by simp [results, Tryd.results12, go_sem, r0, r1, r2, r3, r4]) rfl ⟨(HS.out _ _ _ _ _ _ HV.out).drew, ?_⟩
        unfold ReadEn
        rw [HN.out]
        exact ⟨_, _, _, _, _, _, _, rfl⟩
      | true =>
        obtain ⟨hdd, hds⟩ := data_val hdb hdv
        rw [hdd, Option.bind_some] at HR
        have HRc : Hid (chk ⟨p, wt, d, mv, dv⟩ = r) := by
          show _ = _
          rw [HM7.out.1]
          exact HR.out
        have HEn : Hid (∀ W, Below V.heap.size V W → Calls Tryd.prog 27 #[.agg #[.slice pa p.length pc, .int .i64 wt, .bool d, .int .i64 mv, .string dv]] W fun e w' => e = .returned (.bool (entB ⟨p, wt, d, mv, dv⟩)) ∧ Below W.heap.size W w') := fun W hW =>
          isEntry_any ⟨p, wt, d, mv, dv⟩ pa pc W w.heap.size W.heap.size ⟨strs_row (row_less (b' := w.heap.size) (HPQ.out W (HV5.out.trans (hW.mono (by omega)))) (by omega)) (by have := hpc; show p.length ≤ _; omega) (fun i hi => by have := HPs.out i hi; unfold maxLen; show p[i].size ≤ _; omega), wf_in (by show 0 ≤ wt; omega) (by show wt ≤ 100; omega), wf_in (by have := HM7.out; show 0 ≤ mv; omega) (by have := HM7.out; show mv ≤ 100; omega), (by unfold maxLen; show dv.size ≤ _; omega), hpc.1, hpc.2⟩ (Nat.le_refl _) (HFk.out W (HV.out.trans (hW.mono (Nat.le_trans HV.out.size (Nat.le_refl _)))))
        have HK8 : Hid (∀ W, Below V.heap.size V W → Blk W w5.heap.size #[.slice pa p.length pc, .int .i64 wt, .bool d, .int .i64 mv, .string dv] 31 ∧ Blk W w.heap.size zeroE' 31 ∧ Below w.heap.size w W ∧ W.ownsRow (w.heap.size + 1) 9 1 (.slice pa p.length pc) p.length (p.map .string)) := fun W hW => ⟨EV.out.below hW EV.out.lt, RV.out.below hW RV.out.lt, HV.out.trans (hW.mono HV.out.size), HPQ.out W (HV5.out.trans (hW.mono (by omega)))⟩
        obtain ⟨ok, hok⟩ : ∃ ok, entB ⟨p, wt, d, mv, dv⟩ = ok := ⟨_, rfl⟩
        rw [hok] at HEn
        have HFin : Hid (∀ W, W.ownsRow w.heap.size 9 1 (.slice pa p.length pc) p.length (p.map .string) → ReadEn r w (.returned (.tuple #[.agg #[.slice pa p.length pc, .int .i64 wt, .bool d, .int .i64 mv, .string dv], .bool ok])) W) := fun W hW => by
          have h1 := HRc.out
          unfold chk at h1
          rw [hok] at h1
          cases ok with
          | true => rw [if_pos rfl] at h1; rw [← h1]; exact ⟨pa, pc, rfl, hW⟩
          | false => rw [if_neg (by decide)] at h1; rw [← h1]; exact ⟨_, _, _, _, _, _, _, rfl⟩
        clear HR HRc hok HPQ EV RV
        go_region_with (go_at_call 27; refine (HEn.out _ (by first | exact (Below.refl _ _).drew | exact Below.refl _ _)).mono ?_; rintro e w8 ⟨rfl, hB8⟩; have HB8 : Hid (Below V.heap.size V w8) := (by first | exact hB8 | exact undrewB hB8); have K8 := HK8.out w8 HB8.out; have X0 := K8.1.cell 0 _ rfl; have X1 := K8.1.cell 1 _ rfl; have X2 := K8.1.cell 2 _ rfl; have X3 := K8.1.cell 3 _ rfl; have X4 := K8.1.cell 4 _ rfl; have R0 := K8.2.1.cell 0 _ rfl; have R1 := K8.2.1.cell 1 _ rfl; have R2 := K8.2.1.cell 2 _ rfl; have R3 := K8.2.1.cell 3 _ rfl; have R4 := K8.2.1.cell 4 _ rfl; have RF : ∀ j, w8.frozen? ⟨w.heap.size, j, none⟩ = false := fun j => K8.2.1.frozen j; have hz8 : w.heap.size < w8.heap.size := K8.2.1.lt; have H8 := hide (And.intro K8.2.2.1 K8.2.2.2); clear hB8 K8)
        all_goals
          go_wp2_with fail
          refine bodyPost_ret (v := .tuple #[.agg #[.slice pa p.length pc, .int .i64 wt, .bool d, .int .i64 mv, .string dv], .bool ok]) (by simp [results, Tryd.results12, go_sem, R0, R1, R2, R3, R4]) rfl ⟨by first | exact HS.out _ _ _ _ _ _ H8.out.1 | exact (HS.out _ _ _ _ _ _ H8.out.1).drew, HFin.out _ (row_less (ownsRow_same H8.out.2 (fun g hg => set5_other w8 w.heap.size 0 _ _ _ _ _ g (by have := row_aside H8.out.2 g hg; omega))) (by omega))⟩

end Go.Proofs.YtkidfflmbfnogaaDoor
