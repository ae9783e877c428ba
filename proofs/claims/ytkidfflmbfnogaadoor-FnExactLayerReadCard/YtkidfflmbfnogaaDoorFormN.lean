/- formNamed: the form that a word names. -/
import Derived.Test.YtkidfflmbfnogaaDoorForm
namespace Go.Proofs.YtkidfflmbfnogaaDoor
open Go.RowKit

abbrev fw0 : ByteArray := ⟨#[103, 111, 110, 101]⟩
abbrev fw1 : ByteArray := ⟨#[110, 101, 119, 100, 105, 114]⟩
abbrev fw2 : ByteArray := ⟨#[110, 101, 119]⟩
abbrev fw3 : ByteArray := ⟨#[109, 111, 100, 101]⟩
abbrev fw4 : ByteArray := ⟨#[100, 97, 116, 97]⟩
/-- The form that a word names. -/
def formN (q : ByteArray) : Value :=
  if q = fw0 then formT fw0 1 false false false true else if q = fw1 then formT fw1 2 true true false true else if q = fw2 then formT fw2 2 false true true true else if q = fw3 then formT fw3 3 false true false true else if q = fw4 then formT fw4 4 false false true true else formT ⟨#[]⟩ 0 false false false false
theorem res_keep {w wr : World} (HR : wr.heap[w.heap.size]? = some resO) (HB : Below w.heap.size w wr) (o : Obj) :
    Hid ((wr.alloc o).heap[w.heap.size]? = some resO) ∧ Hid (Below w.heap.size w (wr.alloc o)) := by
  refine ⟨?_, HB.alloc HB.size o⟩
  show _ = _
  rw [Lib.alloc_old _ _ _ (heap_lt HR)]; exact HR
theorem str_off {a b : ByteArray} (h : a ≠ b) : ¬ a.toList = b.toList := fun e => h (toList_inj e)

set_option maxRecDepth 100000 in
set_option maxHeartbeats 4000000 in
theorem formNamed_any (q : ByteArray) (w : World) (hF : FormsAt w) :
    Calls Tryd.prog 22 #[.string q] w fun e w' => e = .returned (formN q) ∧ Below w.heap.size w w' := by
  obtain ⟨tt, fr, hF⟩ := hF
  have HG : ∀ o1, (w.alloc o1).heap[0]? = some (.cells FORMS tt fr) := by
    intro o1
    have h0 := heap_lt hF
    rw [Lib.alloc_old w o1 0 h0]
    exact hF
  clear hF
  have t0 : fw0.toList = [103, 111, 110, 101] := by rw [Lib.toList_data]
  have t1 : fw1.toList = [110, 101, 119, 100, 105, 114] := by rw [Lib.toList_data]
  have t2 : fw2.toList = [110, 101, 119] := by rw [Lib.toList_data]
  have t3 : fw3.toList = [109, 111, 100, 101] := by rw [Lib.toList_data]
  have t4 : fw4.toList = [100, 97, 116, 97] := by rw [Lib.toList_data]
  go_enter Tryd.func22, Tryd.ntmps22
  go_wp2_with (refine wpList_load_row rfl 63 _ rfl 0 rfl tt _ fr _ (HG _) Tryd.underlying63 rfl (by kernel_rfl) ?_)
  clear HG
  go_loopw [7] (fun i wr => ∃ (k : Nat), k ≤ 5 ∧ i = .int .i64 k ∧ Hid ((0 < k → q ≠ fw0) ∧ (1 < k → q ≠ fw1) ∧ (2 < k → q ≠ fw2) ∧ (3 < k → q ≠ fw3) ∧ (4 < k → q ≠ fw4)) ∧ Hid (wr.heap[w.heap.size]? = some resO) ∧ Hid (Below w.heap.size w wr)) (fun i _ => 5 - (intOf i).toNat)
  case atStart =>
    refine ⟨0, Nat.zero_le _, rfl, ⟨by omega, by omega, by omega, by omega, by omega⟩, ?_, ?_⟩
    · show _ = _
      exact heap_alloc_last w _
    · exact (Below.refl _ _).alloc (Nat.le_refl _) _
  case round =>
    obtain ⟨k, hk, rfl, HN, HR, HB⟩ := hrel
    have HK : Hid (∀ o, Hid ((wr.alloc o).heap[w.heap.size]? = some resO) ∧ Hid (Below w.heap.size w (wr.alloc o))) := res_keep HR.out HB.out
    have r0 : ∀ o, (wr.alloc o).cell? ⟨w.heap.size, 0, none⟩ = some (.string ⟨#[]⟩) := fun o => by rw [Lib.cell_of_heap (HK.out o).1.out]; rfl
    have r1 : ∀ o, (wr.alloc o).cell? ⟨w.heap.size, 1, none⟩ = some (.int .i64 0) := fun o => by rw [Lib.cell_of_heap (HK.out o).1.out]; rfl
    have r2 : ∀ o, (wr.alloc o).cell? ⟨w.heap.size, 2, none⟩ = some (.bool false) := fun o => by rw [Lib.cell_of_heap (HK.out o).1.out]; rfl
    have r3 : ∀ o, (wr.alloc o).cell? ⟨w.heap.size, 3, none⟩ = some (.bool false) := fun o => by rw [Lib.cell_of_heap (HK.out o).1.out]; rfl
    have r4 : ∀ o, (wr.alloc o).cell? ⟨w.heap.size, 4, none⟩ = some (.bool false) := fun o => by rw [Lib.cell_of_heap (HK.out o).1.out]; rfl
    have rf : ∀ o j, (wr.alloc o).frozen? ⟨w.heap.size, j, none⟩ = false := fun o j => Lib.frozen_of_heap (HK.out o).1.out j
    have HS : Hid (∀ o v0 v1 v2 v3 v4, Below w.heap.size w (((((((wr.alloc o).setCell ⟨w.heap.size, 0, none⟩ v0).setCell ⟨w.heap.size, 1, none⟩ v1).setCell ⟨w.heap.size, 2, none⟩ v2).setCell ⟨w.heap.size, 3, none⟩ v3).setCell ⟨w.heap.size, 4, none⟩ v4))) := fun o v0 v1 v2 v3 v4 =>
      (((((HK.out o).2.out.setCell (p := ⟨w.heap.size, 0, none⟩) (Nat.le_refl _) v0).setCell (p := ⟨w.heap.size, 1, none⟩) (Nat.le_refl _) v1).setCell (p := ⟨w.heap.size, 2, none⟩) (Nat.le_refl _) v2).setCell (p := ⟨w.heap.size, 3, none⟩) (Nat.le_refl _) v3).setCell (p := ⟨w.heap.size, 4, none⟩) (Nat.le_refl _) v4
    obtain rfl | hk0 : k = 0 ∨ 0 < k := by omega
    · clear HR HB
      have hi := f_at0
      by_cases h1 : q = fw0
      · subst h1
        have HV : Hid (formN fw0 = formT fw0 1 false false false true) := by show _ = _; rfl
        go_wp2_with fail
        (try simp only [Exit.inBlock, Exit.then]); refine bodyPost_ret (by simp [results, Tryd.results22, go_sem, r0, r1, r2, r3, r4]; try rfl) rfl ?_
        exact ⟨by rw [HV.out], HS.out _ _ _ _ _ _⟩
      · have e1 : ¬ q.toList = [103, 111, 110, 101] := fun e => str_off h1 (e.trans t0.symm)
        have e2 : ¬ [103, 111, 110, 101] = q.toList := fun e => e1 e.symm
        have e3 : ([103, 111, 110, 101] == q.toList) = false := beq_eq_false_iff_ne.2 e2
        have e4 : (q.toList == [103, 111, 110, 101]) = false := beq_eq_false_iff_ne.2 e1
        have HX := HN.out
        have HX2 : Hid (q ≠ fw0) := h1
        go_wp2_with fail
        go_roundw
        case rel => exact ⟨1, by omega, rfl, ⟨fun _ => HX2.out, fun c => absurd c (by decide), fun c => absurd c (by decide), fun c => absurd c (by decide), fun c => absurd c (by decide)⟩, HK.out _⟩
        case measure => simp [intOf]
    obtain rfl | hk1 : k = 1 ∨ 1 < k := by omega
    · clear HR HB
      have hi := f_at1
      by_cases h1 : q = fw1
      · subst h1
        have HV : Hid (formN fw1 = formT fw1 2 true true false true) := by show _ = _; rfl
        go_wp2_with fail
        (try simp only [Exit.inBlock, Exit.then]); refine bodyPost_ret (by simp [results, Tryd.results22, go_sem, r0, r1, r2, r3, r4]; try rfl) rfl ?_
        exact ⟨by rw [HV.out], HS.out _ _ _ _ _ _⟩
      · have e1 : ¬ q.toList = [110, 101, 119, 100, 105, 114] := fun e => str_off h1 (e.trans t1.symm)
        have e2 : ¬ [110, 101, 119, 100, 105, 114] = q.toList := fun e => e1 e.symm
        have e3 : ([110, 101, 119, 100, 105, 114] == q.toList) = false := beq_eq_false_iff_ne.2 e2
        have e4 : (q.toList == [110, 101, 119, 100, 105, 114]) = false := beq_eq_false_iff_ne.2 e1
        have HX := HN.out
        have HX2 : Hid (q ≠ fw1) := h1
        go_wp2_with fail
        go_roundw
        case rel => exact ⟨2, by omega, rfl, ⟨fun _ => HX.1 (by decide), fun _ => HX2.out, fun c => absurd c (by decide), fun c => absurd c (by decide), fun c => absurd c (by decide)⟩, HK.out _⟩
        case measure => simp [intOf]
    obtain rfl | hk2 : k = 2 ∨ 2 < k := by omega
    · clear HR HB
      have hi := f_at2
      by_cases h1 : q = fw2
      · subst h1
        have HV : Hid (formN fw2 = formT fw2 2 false true true true) := by show _ = _; rfl
        go_wp2_with fail
        (try simp only [Exit.inBlock, Exit.then]); refine bodyPost_ret (by simp [results, Tryd.results22, go_sem, r0, r1, r2, r3, r4]; try rfl) rfl ?_
        exact ⟨by rw [HV.out], HS.out _ _ _ _ _ _⟩
      · have e1 : ¬ q.toList = [110, 101, 119] := fun e => str_off h1 (e.trans t2.symm)
        have e2 : ¬ [110, 101, 119] = q.toList := fun e => e1 e.symm
        have e3 : ([110, 101, 119] == q.toList) = false := beq_eq_false_iff_ne.2 e2
        have e4 : (q.toList == [110, 101, 119]) = false := beq_eq_false_iff_ne.2 e1
        have HX := HN.out
        have HX2 : Hid (q ≠ fw2) := h1
        go_wp2_with fail
        go_roundw
        case rel => exact ⟨3, by omega, rfl, ⟨fun _ => HX.1 (by decide), fun _ => HX.2.1 (by decide), fun _ => HX2.out, fun c => absurd c (by decide), fun c => absurd c (by decide)⟩, HK.out _⟩
        case measure => simp [intOf]
    obtain rfl | hk3 : k = 3 ∨ 3 < k := by omega
    · clear HR HB
      have hi := f_at3
      by_cases h1 : q = fw3
      · subst h1
        have HV : Hid (formN fw3 = formT fw3 3 false true false true) := by show _ = _; rfl
        go_wp2_with fail
        (try simp only [Exit.inBlock, Exit.then]); refine bodyPost_ret (by simp [results, Tryd.results22, go_sem, r0, r1, r2, r3, r4]; try rfl) rfl ?_
        exact ⟨by rw [HV.out], HS.out _ _ _ _ _ _⟩
      · have e1 : ¬ q.toList = [109, 111, 100, 101] := fun e => str_off h1 (e.trans t3.symm)
        have e2 : ¬ [109, 111, 100, 101] = q.toList := fun e => e1 e.symm
        have e3 : ([109, 111, 100, 101] == q.toList) = false := beq_eq_false_iff_ne.2 e2
        have e4 : (q.toList == [109, 111, 100, 101]) = false := beq_eq_false_iff_ne.2 e1
        have HX := HN.out
        have HX2 : Hid (q ≠ fw3) := h1
        go_wp2_with fail
        go_roundw
        case rel => exact ⟨4, by omega, rfl, ⟨fun _ => HX.1 (by decide), fun _ => HX.2.1 (by decide), fun _ => HX.2.2.1 (by decide), fun _ => HX2.out, fun c => absurd c (by decide)⟩, HK.out _⟩
        case measure => simp [intOf]
    obtain rfl | hk4 : k = 4 ∨ 4 < k := by omega
    · clear HR HB
      have hi := f_at4
      by_cases h1 : q = fw4
      · subst h1
        have HV : Hid (formN fw4 = formT fw4 4 false false true true) := by show _ = _; rfl
        go_wp2_with fail
        (try simp only [Exit.inBlock, Exit.then]); refine bodyPost_ret (by simp [results, Tryd.results22, go_sem, r0, r1, r2, r3, r4]; try rfl) rfl ?_
        exact ⟨by rw [HV.out], HS.out _ _ _ _ _ _⟩
      · have e1 : ¬ q.toList = [100, 97, 116, 97] := fun e => str_off h1 (e.trans t4.symm)
        have e2 : ¬ [100, 97, 116, 97] = q.toList := fun e => e1 e.symm
        have e3 : ([100, 97, 116, 97] == q.toList) = false := beq_eq_false_iff_ne.2 e2
        have e4 : (q.toList == [100, 97, 116, 97]) = false := beq_eq_false_iff_ne.2 e1
        have HX := HN.out
        have HX2 : Hid (q ≠ fw4) := h1
        go_wp2_with fail
        go_roundw
        case rel => exact ⟨5, by omega, rfl, ⟨fun _ => HX.1 (by decide), fun _ => HX.2.1 (by decide), fun _ => HX.2.2.1 (by decide), fun _ => HX.2.2.2.1 (by decide), fun _ => HX2.out⟩, HK.out _⟩
        case measure => simp [intOf]
    · have he : k = 5 := by omega
      subst he
      have HV : Hid (formN q = formT ⟨#[]⟩ 0 false false false false) := by
        show _ = _
        obtain ⟨g0, g1, g2, g3, g4⟩ := HN.out
        rw [formN, if_neg (g0 (by decide)), if_neg (g1 (by decide)), if_neg (g2 (by decide)), if_neg (g3 (by decide)), if_neg (g4 (by decide))]
      have s0 : wr.cell? ⟨w.heap.size, 0, none⟩ = some (.string ⟨#[]⟩) := by rw [Lib.cell_of_heap HR.out]; rfl
      have s1 : wr.cell? ⟨w.heap.size, 1, none⟩ = some (.int .i64 0) := by rw [Lib.cell_of_heap HR.out]; rfl
      have s2 : wr.cell? ⟨w.heap.size, 2, none⟩ = some (.bool false) := by rw [Lib.cell_of_heap HR.out]; rfl
      have s3 : wr.cell? ⟨w.heap.size, 3, none⟩ = some (.bool false) := by rw [Lib.cell_of_heap HR.out]; rfl
      have s4 : wr.cell? ⟨w.heap.size, 4, none⟩ = some (.bool false) := by rw [Lib.cell_of_heap HR.out]; rfl
      have sf : ∀ j, wr.frozen? ⟨w.heap.size, j, none⟩ = false := fun j => Lib.frozen_of_heap HR.out j
      go_wp2_with fail
      (try simp only [Exit.inBlock, Exit.then]); refine bodyPost_ret (by simp [results, Tryd.results22, go_sem, s0, s1, s2, s3, s4]; try rfl) rfl ?_
      exact ⟨by rw [HV.out], ((((HB.out.setCell (p := ⟨w.heap.size, 0, none⟩) (Nat.le_refl _) _).setCell (p := ⟨w.heap.size, 1, none⟩) (Nat.le_refl _) _).setCell (p := ⟨w.heap.size, 2, none⟩) (Nat.le_refl _) _).setCell (p := ⟨w.heap.size, 3, none⟩) (Nat.le_refl _) _).setCell (p := ⟨w.heap.size, 4, none⟩) (Nat.le_refl _) _⟩

end Go.Proofs.YtkidfflmbfnogaaDoor
