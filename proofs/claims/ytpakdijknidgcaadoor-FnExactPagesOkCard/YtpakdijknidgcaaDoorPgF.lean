/- The program's PagesOk and PagesFree; the specification's PagesFree. -/
import Derived.Test.YtpakdijknidgcaaDoorPgSh
import Derived.Test.YtpakdijknidgcaaDoorPgSO
import Derived.Test.YtpakdijknidgcaaDoorCode
import Derived.Test.YtpakdijknidgcaaDoorPgz
namespace Go.Proofs.YtpakdijknidgcaaDoor
open Go.RowKit

/-- How many pages are free. -/
def freeV (P : List Pg) (N : List Pn) : Nat := match okV P N with | none => 0 | some T => (freeN T 96).length
theorem okV_out {P : List Pg} {N : List Pn} {T : List Bool} (h : okV P N = some T) : P.length = 96 ∧ ∀ (a : Nat) (ha : a < P.length), P[a].used = T.getD a false := by
  unfold okV at h
  split at h
  · rename_i hh
    cases ht : takeAll P N (List.replicate 96 false) with
    | none => rw [ht] at h; cases h
    | some T' =>
      rw [ht] at h
      simp only at h
      split at h
      · rename_i hr
        cases h
        refine ⟨hh.1, fun a ha => ?_⟩
        cases htk : T.getD a false with
        | true =>
          rcases (takeAll_out P N _ _ (by rw [List.length_replicate]; exact hh.1.symm) ht).2.2 a ha htk with h1 | h1
          · rw [rep_getD] at h1; cases h1
          · exact h1.1
        | false =>
          have := of_decide_eq_true hr a ha htk
          simp only [freeB, Bool.and_eq_true, decide_eq_true_eq] at this
          simpa using this.1.1
      · cases h
  · cases h

set_option maxHeartbeats 2000000 in
theorem implOk_any (P : List Pg) (N : List Pn) (pv nv : Value) (w : World) (lo hi : Nat) (hp : RcsAt fPg w lo hi pv P) (hn : RcsAt fPn w lo hi nv N) (hhi : hi ≤ w.heap.size)
    (hs : ∀ (i : Nat) (h : i < P.length), P[i].data.size ≤ maxLen) (hsn : ∀ (i : Nat) (h : i < N.length), N[i].name.size ≤ maxLen) (hg : Laid0 w) :
    Calls Tryd.prog 8 #[.agg #[pv, nv]] w fun e w' => e = .returned (.bool (okB P N)) ∧ Below w.heap.size w w' := by
  have HSh := hide (fun (W : World) (hW : Below w.heap.size w W) => shelfOf_any P N pv nv W lo hi (hp.keep hW hhi) (hn.keep hW hhi) (Nat.le_trans hhi hW.size) hs hsn)
  obtain ⟨pa, pl, pc, rfl⟩ : ∃ a n c, pv = .slice a n c := by obtain ⟨a, c, e, _⟩ := hp; exact ⟨_, _, _, e⟩
  obtain ⟨na, nl, nc, rfl⟩ : ∃ a n c, nv = .slice a n c := by obtain ⟨a, c, e, _⟩ := hn; exact ⟨_, _, _, e⟩
  have HBo : Hid (∀ o, Below w.heap.size w (w.alloc o)) := fun o => (Below.refl _ _).alloc (Nat.le_refl _) o
  have HG := hide hg
  have HGl := hide hg.lt
  have HV : Hid (okB P N = (okV P N).isSome) := rfl
  clear hp hn hg
  go_enter Tryd.func8, Tryd.ntmps8
  go_wp2_with fail
  refine (HSh.out _ (HBo.out _)).mono ?_
  rintro e w1 ⟨hB1, hno, hyes⟩
  have HB1 : Hid (Below w.heap.size w w1) := (HBo.out _).trans (hB1.mono (HBo.out _).size)
  cases hk : okV P N with
  | none =>
    obtain rfl := hno hk
    have HC := hide (codeOf_ref 1 w1 (HG.out.below HB1.out HGl.out))
    have HR : Hid (okB P N = false) := by show _ = _; rw [HV.out, hk]; rfl
    clear hB1 hno hyes
    go_wp2_with fail
    refine HC.out.mono ?_
    rintro e w2 ⟨rfl, hB2⟩
    have HB2 : Hid (Below w.heap.size w w2) := HB1.out.trans (hB2.mono HB1.out.size)
    clear hB2
    go_wp2_with fail
    go_ret
    exact ⟨by rw [HR.out]; rfl, HB2.out⟩
  | some T =>
    obtain ⟨sb, lb, lcap, mv, tb, tt, iv, rfl, _⟩ := hyes T hk
    have HC := hide (codeOf_nil w1)
    have HR : Hid (okB P N = true) := by show _ = _; rw [HV.out, hk]; rfl
    clear hB1 hno hyes
    go_wp2_with fail
    refine HC.out.mono ?_
    rintro e w2 ⟨rfl, hB2⟩
    have HB2 : Hid (Below w.heap.size w w2) := HB1.out.trans (hB2.mono HB1.out.size)
    clear hB2
    go_wp2_with fail
    go_ret
    exact ⟨by rw [HR.out]; rfl, HB2.out⟩

set_option maxHeartbeats 2000000 in
theorem implFree_any (P : List Pg) (N : List Pn) (pv nv : Value) (w : World) (lo hi : Nat) (hp : RcsAt fPg w lo hi pv P) (hn : RcsAt fPn w lo hi nv N) (hhi : hi ≤ w.heap.size)
    (hs : ∀ (i : Nat) (h : i < P.length), P[i].data.size ≤ maxLen) (hsn : ∀ (i : Nat) (h : i < N.length), N[i].name.size ≤ maxLen) (hg : Laid0 w) :
    Calls Tryd.prog 11 #[.agg #[pv, nv]] w fun e w' => e = .returned (.int .i64 ((freeV P N : Nat) : Int)) ∧ Below w.heap.size w w' := by
  have HSh := hide (fun (W : World) (hW : Below w.heap.size w W) => shelfOf_any P N pv nv W lo hi (hp.keep hW hhi) (hn.keep hW hhi) (Nat.le_trans hhi hW.size) hs hsn)
  obtain ⟨pa, pl, pc, rfl⟩ : ∃ a n c, pv = .slice a n c := by obtain ⟨a, c, e, _⟩ := hp; exact ⟨_, _, _, e⟩
  obtain ⟨na, nl, nc, rfl⟩ : ∃ a n c, nv = .slice a n c := by obtain ⟨a, c, e, _⟩ := hn; exact ⟨_, _, _, e⟩
  have HBo : Hid (∀ o, Below w.heap.size w (w.alloc o)) := fun o => (Below.refl _ _).alloc (Nat.le_refl _) o
  have HG := hide hg
  have HGl := hide hg.lt
  have HV : Hid (freeV P N = match okV P N with | none => 0 | some T => (freeN T 96).length) := rfl
  generalize freeV P N = res at HV ⊢
  clear hp hn hg
  go_enter Tryd.func11, Tryd.ntmps11
  go_wp2_with fail
  refine (HSh.out _ (HBo.out _)).mono ?_
  rintro e w1 ⟨hB1, hno, hyes⟩
  have HB1 : Hid (Below w.heap.size w w1) := (HBo.out _).trans (hB1.mono (HBo.out _).size)
  cases hk : okV P N with
  | none =>
    obtain rfl := hno hk
    have HC := hide (codeOf_ref 1 w1 (HG.out.below HB1.out HGl.out))
    have hr : res = 0 := by rw [HV.out, hk]
    subst hr
    clear hB1 hno hyes HV
    go_wp2_with fail
    refine HC.out.mono ?_
    rintro e w2 ⟨rfl, hB2⟩
    have HB2 : Hid (Below w.heap.size w w2) := HB1.out.trans (hB2.mono HB1.out.size)
    clear hB2
    go_wp2_with fail
    go_ret
    exact ⟨rfl, HB2.out⟩
  | some T =>
    obtain ⟨sb, lb, lcap, mv, tb, tt, iv, rfl, hT⟩ := hyes T hk
    have HC := hide (codeOf_nil w1)
    have hr : res = (freeN T 96).length := by rw [HV.out, hk]
    subst hr
    have HT := hide hT
    obtain ⟨qa, qc, rfl⟩ := ownsRow_form hT.q.ir
    clear hB1 hno hyes HV hT
    go_wp2_with fail
    refine HC.out.mono ?_
    rintro e w2 ⟨rfl, hB2⟩
    have HB2 : Hid (Below w.heap.size w w2) := HB1.out.trans (hB2.mono HB1.out.size)
    have HL := hide (qLenI_any w2 sb qa _ qc (HT.out.q.below hB2).c2)
    clear hB2
    go_wp2_with fail
    refine HL.out.mono ?_
    rintro e w3 ⟨rfl, rfl⟩
    go_wp2_with fail
    go_ret
    exact ⟨rfl, HB2.out⟩

set_option maxHeartbeats 2000000 in
theorem l32Free_any (P : List Pg) (T : List Bool) (pv nv : Value) (w : World) (lo hi : Nat) (hp : RcsAt fPg w lo hi pv P) (hnv : ∃ a n c, nv = .slice a n c) (hhi : hi ≤ w.heap.size) (hP : P.length = 96) (hu : ∀ (a : Nat) (ha : a < P.length), P[a].used = T.getD a false) :
    Calls Tryd.prog 23 #[.agg #[pv, nv]] w fun e w' => e = .returned (.int .i64 (((freeN T 96).length : Nat) : Int)) ∧ Below w.heap.size w w' := by
  obtain ⟨na, nl, nc, rfl⟩ := hnv
  obtain ⟨a, cap, rfl, _, hc⟩ := hp
  obtain ⟨b, o, rfl, _, hb2, hcell⟩ := hc (by omega)
  have hbl : b < w.heap.size := by omega
  rw [hP]
  have HCell := hide hcell
  have HU := hide hu
  clear hc hcell hu
  go_enter Tryd.func23, Tryd.ntmps23
  go_wp2_with fail
  go_loopw [3, 4] (fun x i wr => ∃ (k : Nat), k ≤ 96 ∧ i = .int .i64 k ∧ x = .int .i64 ((freeN T k).length : Int) ∧ Hid (Below w.heap.size w wr ∧ Blk wr w.heap.size #[.slice (some ⟨b, o, none⟩) 96 cap, .slice na nl nc] 31)) (fun _ i _ => 96 - (intOf i).toNat)
  case atStart => exact ⟨0, Nat.zero_le _, rfl, rfl, (Below.refl _ _).alloc (Nat.le_refl _) _, Blk.new w _ _⟩
  case round =>
    obtain ⟨k, hk, rfl, rfl, HB⟩ := hrel
    have x0 := HB.out.2.cell 0 _ rfl
    by_cases hlt : k < 96
    · have hltI : (k : Int) < 96 := by omega
      have c0 := (HCell.out k (by omega)).1
      rw [← HB.out.1.cell (p := ⟨b, _, none⟩) hbl] at c0
      simp only [fPg] at c0
      have hfl := freeN_length T k
      have hfs := freeN_succ T k
      have hpu := HU.out k (by omega)
      cases ht : T.getD k false with
      | true =>
        rw [hpu, ht] at c0
        rw [if_pos ht] at hfs
        have HFs := hide hfs
        clear hpu ht hfs
        go_wp2_with fail
        go_roundw
        case rel => exact ⟨k + 1, by omega, by go_num, by rw [HFs.out], HB⟩
        case measure => simp [intOf]; omega
      | false =>
        rw [hpu, ht] at c0
        rw [if_neg (by rw [ht]; exact Bool.false_ne_true)] at hfs
        have HFs : Hid ((freeN T (k + 1)).length = (freeN T k).length + 1) := by show _ = _; rw [hfs]; simp
        clear hpu ht hfs
        go_wp2_with fail
        go_roundw
        case rel => exact ⟨k + 1, by omega, by go_num, by rw [HFs.out]; go_num, HB⟩
        case measure => simp [intOf]; omega
    · obtain rfl : k = 96 := by omega
      go_wp2_with fail
      go_ret
      exact ⟨rfl, HB.out.1⟩

set_option maxHeartbeats 2000000 in
theorem specFree_any (P : List Pg) (N : List Pn) (pv nv : Value) (w : World) (lo hi : Nat) (hp : RcsAt fPg w lo hi pv P) (hn : RcsAt fPn w lo hi nv N) (hhi : hi ≤ w.heap.size)
    (hs : ∀ (i : Nat) (h : i < P.length), P[i].data.size ≤ maxLen) (hsn : ∀ (i : Nat) (h : i < N.length), N[i].name.size ≤ maxLen) :
    Calls Tryd.prog 10 #[.agg #[pv, nv]] w fun e w' => e = .returned (.int .i64 ((freeV P N : Nat) : Int)) ∧ Below w.heap.size w w' := by
  have hnv : ∃ a n c, nv = .slice a n c := by obtain ⟨a, c, e, _⟩ := hn; exact ⟨_, _, _, e⟩
  have HOk := hide (fun (W : World) (hW : Below w.heap.size w W) => specOk_any P N pv nv W lo hi (hp.keep hW hhi) (hn.keep hW hhi) (Nat.le_trans hhi hW.size) hs hsn)
  have HFr := hide (fun (T : List Bool) (h : okV P N = some T) (W : World) (hW : Below w.heap.size w W) => l32Free_any P T pv nv W lo hi (hp.keep hW hhi) hnv (Nat.le_trans hhi hW.size) (okV_out h).1 (okV_out h).2)
  obtain ⟨pa, pl, pc, rfl⟩ : ∃ a n c, pv = .slice a n c := by obtain ⟨a, c, e, _⟩ := hp; exact ⟨_, _, _, e⟩
  obtain ⟨na, nl, nc, rfl⟩ := hnv
  have HBo : Hid (∀ o, Below w.heap.size w (w.alloc o)) := fun o => (Below.refl _ _).alloc (Nat.le_refl _) o
  have HV : Hid (freeV P N = match okV P N with | none => 0 | some T => (freeN T 96).length) := rfl
  generalize freeV P N = res at HV ⊢
  have HOb : Hid (okB P N = (okV P N).isSome) := rfl
  clear hp hn
  go_enter Tryd.func10, Tryd.ntmps10
  go_wp2_with fail
  generalize hW : w.alloc (.cells #[.slice pa pl pc, .slice na nl nc] 31) = W
  have HW : Hid (Below w.heap.size w W ∧ Blk W w.heap.size #[.slice pa pl pc, .slice na nl nc] 31) := by subst hW; exact ⟨HBo.out _, Blk.new _ _ _⟩
  clear hW HBo
  refine (HOk.out W HW.out.1).mono ?_
  rintro e w1 ⟨rfl, hB1⟩
  have HW1 : Hid (Below w.heap.size w w1) := HW.out.1.trans (hB1.mono HW.out.1.size)
  have q := HW.out.2.below hB1 HW.out.2.lt
  have x0 := q.cell 0 _ rfl
  have x1 := q.cell 1 _ rfl
  clear hB1 q HOk
  cases hk : okV P N with
  | none =>
    have hb : okB P N = false := by rw [HOb.out, hk]; rfl
    have hr : res = 0 := by rw [HV.out, hk]
    subst hr
    rw [hb]
    clear HV
    go_wp2_with fail
    go_ret
    exact ⟨rfl, HW1.out⟩
  | some T =>
    have hb : okB P N = true := by rw [HOb.out, hk]; rfl
    have hr : res = (freeN T 96).length := by rw [HV.out, hk]
    subst hr
    rw [hb]
    have HF := hide (HFr.out T hk w1 HW1.out)
    clear HV
    go_wp2_with fail
    refine HF.out.mono ?_
    rintro e w2 ⟨rfl, hB2⟩
    have HB2 : Hid (Below w.heap.size w w2) := HW1.out.trans (hB2.mono HW1.out.size)
    clear hB2
    go_wp2_with fail
    go_ret
    exact ⟨rfl, HB2.out⟩

end Go.Proofs.YtpakdijknidgcaaDoor
