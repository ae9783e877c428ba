/- The laws' count and copy of pages with their names. -/
import Derived.Test.YtblcmnlbapbebaaDoorPgF
namespace Go.Proofs.YtblcmnlbapbebaaDoor
open Go.RowKit

def szPs (P : List Pg) (N : List Pn) (L : Int) : Int :=
  if szKids szPg P L < 0 then -1 else if szKids szPn N (szKids szPg P L) < 0 then -1 else szKids szPn N (szKids szPg P L)
theorem szPs_len {P : List Pg} {N : List Pn} (h : 0 ≤ szPs P N 1048576) : P.length ≤ 1048576 ∧ N.length ≤ 1048576 := by
  unfold szPs at h
  split at h
  · omega
  · rename_i h1
    split at h
    · omega
    · rename_i h2
      have a := szPg_len (l := P) (L := 1048576) (by omega)
      have b := szPn_len (l := N) (L := szKids szPg P 1048576) (by omega)
      have c := szKids_le szPg szPg_le P 1048576 (by omega)
      omega

set_option maxHeartbeats 1000000 in
theorem szPages_any (P : List Pg) (N : List Pn) (pv nv : Value) (w : World) (lo hi : Nat) (hp : RcsAt fPg w lo hi pv P) (hn : RcsAt fPn w lo hi nv N) (hhi : hi ≤ w.heap.size)
    (hs : ∀ (i : Nat) (h : i < P.length), P[i].data.size ≤ maxLen) (hsn : ∀ (i : Nat) (h : i < N.length), N[i].name.size ≤ maxLen) :
    Calls Tryd.prog 4 #[.agg #[pv, nv], .int .i64 1048576] w fun e w' => e = .returned (.int .i64 (szPs P N 1048576)) ∧ Below w.heap.size w w' := by
  have HC1 : Hid (∀ W, Below w.heap.size w W → Calls Tryd.prog 9 #[pv, .int .i64 1048576] W fun e w' => e = .returned (.int .i64 (szKids szPg P 1048576)) ∧ Below W.heap.size W w') := fun W hb =>
    szPageS_any P pv 1048576 W lo hi (hp.keep hb hhi) hs (Nat.le_trans hhi hb.size) (by omega) (by omega)
  have HC2 : Hid (0 ≤ szKids szPg P 1048576 → ∀ W, Below w.heap.size w W → Calls Tryd.prog 10 #[nv, .int .i64 (szKids szPg P 1048576)] W fun e w' => e = .returned (.int .i64 (szKids szPn N (szKids szPg P 1048576))) ∧ Below W.heap.size W w') := fun h0 W hb =>
    szPageNameS_any N nv _ W lo hi (hn.keep hb hhi) hsn (Nat.le_trans hhi hb.size) h0 (szKids_le szPg szPg_le P 1048576 (by omega))
  have HD : Hid (szPs P N 1048576 = if szKids szPg P 1048576 < 0 then -1 else if szKids szPn N (szKids szPg P 1048576) < 0 then -1 else szKids szPn N (szKids szPg P 1048576)) := rfl
  obtain ⟨pa, pl, pc, rfl⟩ : ∃ a n c, pv = .slice a n c := by obtain ⟨a, c, e, _⟩ := hp; exact ⟨_, _, _, e⟩
  obtain ⟨na, nl, nc, rfl⟩ : ∃ a n c, nv = .slice a n c := by obtain ⟨a, c, e, _⟩ := hn; exact ⟨_, _, _, e⟩
  clear hp hn
  have HBo : Hid (∀ o, Below w.heap.size w (w.alloc o)) := fun o => (Below.refl _ _).alloc (Nat.le_refl _) o
  generalize szPs P N 1048576 = res at HD ⊢
  generalize szKids szPn N (szKids szPg P 1048576) = r2 at HC2 HD
  generalize szKids szPg P 1048576 = r1 at HC1 HC2 HD
  go_enter Tryd.func4, Tryd.ntmps4
  go_wp2_with fail
  generalize hW : w.alloc (.cells #[.slice pa pl pc, .slice na nl nc] 25) = W
  have HW : Hid (Below w.heap.size w W ∧ Blk W w.heap.size #[.slice pa pl pc, .slice na nl nc] 25) := by subst hW; exact ⟨HBo.out _, Blk.new _ _ _⟩
  clear hW HBo
  refine (HC1.out W HW.out.1).mono ?_
  rintro e w1 ⟨rfl, hB1⟩
  have HW1 : Hid (Below w.heap.size w w1) := HW.out.1.trans (hB1.mono HW.out.1.size)
  have x1 := (HW.out.2.below hB1 HW.out.2.lt).cell 1 _ rfl
  clear hB1 HC1 HW
  by_cases h1 : r1 < 0
  · have hr : res = -1 := by rw [HD.out, if_pos h1]
    subst hr
    clear HD HC2
    go_wp2_with fail
    go_ret
    exact ⟨rfl, HW1.out⟩
  · have HC := hide (HC2.out (by omega) w1 HW1.out)
    clear HC2
    go_wp2_with fail
    refine HC.out.mono ?_
    rintro e w2 ⟨rfl, hB2⟩
    have HW2 : Hid (Below w.heap.size w w2) := HW1.out.trans (hB2.mono HW1.out.size)
    clear hB2 HC
    by_cases h2 : r2 < 0
    · have hr : res = -1 := by rw [HD.out, if_neg (by omega), if_pos h2]
      subst hr
      clear HD
      go_wp2_with fail
      go_ret
      exact ⟨rfl, HW2.out⟩
    · have hr : res = r2 := by rw [HD.out, if_neg (by omega), if_neg (by omega)]
      subst hr
      clear HD
      go_wp2_with fail
      go_ret
      exact ⟨rfl, HW2.out⟩

set_option maxHeartbeats 1000000 in
theorem toPages_any (P : List Pg) (N : List Pn) (pv nv : Value) (w : World) (lo hi : Nat) (hp : RcsAt fPg w lo hi pv P) (hn : RcsAt fPn w lo hi nv N) (hhi : hi ≤ w.heap.size) (hP : P.length ≤ 1048576) (hN : N.length ≤ 1048576) :
    Calls Tryd.prog 6 #[.agg #[pv, nv]] w fun e w' => ∃ a c a' c', e = .returned (.agg #[.slice a P.length c, .slice a' N.length c']) ∧ RcsAt fPg w' w.heap.size w'.heap.size (.slice a P.length c) P ∧ RcsAt fPn w' w.heap.size w'.heap.size (.slice a' N.length c') N ∧ Below w.heap.size w w' := by
  have HC1 : Hid (∀ W, Below w.heap.size w W → Calls Tryd.prog 14 #[pv] W fun e w' => ∃ a c, e = .returned (.slice a P.length c) ∧ OwnRcs fPg w' W.heap.size w'.heap.size W.heap.size (.slice a P.length c) P ∧ Below W.heap.size W w' ∧ W.heap.size < w'.heap.size) := fun W hb =>
    toPageS_any P pv W lo hi (hp.keep hb hhi) (Nat.le_trans hhi hb.size) hP
  have HC2 : Hid (∀ W, Below w.heap.size w W → Calls Tryd.prog 15 #[nv] W fun e w' => ∃ a c, e = .returned (.slice a N.length c) ∧ OwnRcs fPn w' W.heap.size w'.heap.size W.heap.size (.slice a N.length c) N ∧ Below W.heap.size W w' ∧ W.heap.size < w'.heap.size) := fun W hb =>
    toPageNameS_any N nv W lo hi (hn.keep hb hhi) (Nat.le_trans hhi hb.size) hN
  obtain ⟨pa, pl, pc, rfl⟩ : ∃ a n c, pv = .slice a n c := by obtain ⟨a, c, e, _⟩ := hp; exact ⟨_, _, _, e⟩
  obtain ⟨na, nl, nc, rfl⟩ : ∃ a n c, nv = .slice a n c := by obtain ⟨a, c, e, _⟩ := hn; exact ⟨_, _, _, e⟩
  clear hp hn
  have HA : Hid (∀ o1 o2 o3, Below w.heap.size w (((w.alloc o1).alloc o2).alloc o3)) := fun o1 o2 o3 => (((Below.refl _ _).alloc (Nat.le_refl _) o1).alloc (by simp) o2).alloc (by simp; omega) o3
  go_enter Tryd.func6, Tryd.ntmps6
  go_wp2_with fail
  generalize hW : ((w.alloc (Obj.cells #[.slice pa pl pc, .slice na nl nc] 25)).alloc (Obj.cells #[.slice none 0 0, .slice none 0 0] 31)).alloc (Obj.cells #[.slice none 0 0, .slice none 0 0] 31) = W
  have HW : Hid (Below w.heap.size w W ∧ W.heap.size = w.heap.size + 3 ∧ Blk W w.heap.size #[.slice pa pl pc, .slice na nl nc] 25 ∧ Blk W (w.heap.size + 1) #[.slice none 0 0, .slice none 0 0] 31 ∧ Blk W (w.heap.size + 1 + 1) #[.slice none 0 0, .slice none 0 0] 31) := by
    subst hW
    exact ⟨HA.out _ _ _, by simp, ((Blk.new w _ _).alloc _).alloc _, (Blk.atn (by simp)).alloc _, Blk.atn (by simp)⟩
  clear HA hW
  refine (HC1.out W HW.out.1).mono ?_
  rintro e w1 ⟨a1, c1, rfl, hO1, hB1, hS1⟩
  have HO1 := hide hO1
  have HB1 := hide hB1
  have q0 := HW.out.2.2.1.below hB1 (by rw [HW.out.2.1]; omega)
  have q1 := HW.out.2.2.2.1.below hB1 (by rw [HW.out.2.1]; omega)
  have q2 := HW.out.2.2.2.2.below hB1 (by rw [HW.out.2.1]; omega)
  have HQ := hide (And.intro q0 (And.intro q1 q2))
  have x0 := q1.cell 0 _ rfl
  have x1 := q1.frozen 0
  have y0 := q2.cell 0 _ rfl
  have y1 := q2.frozen 0
  have z1 := q0.cell 1 _ rfl
  clear hB1 q0 q1 q2 hO1
  go_wp2_with fail
  generalize hW1 : w1.setCell ⟨w.heap.size + 1 + 1, 0, none⟩ (.slice a1 P.length c1) = W1
  have HW1 : Hid (Below w.heap.size w W1 ∧ W1.heap.size = w1.heap.size ∧ OwnRcs fPg W1 W.heap.size w1.heap.size W.heap.size (.slice a1 P.length c1) P ∧ Blk W1 (w.heap.size + 1) #[.slice none 0 0, .slice none 0 0] 31 ∧ Blk W1 (w.heap.size + 1 + 1) #[.slice a1 P.length c1, .slice none 0 0] 31 ∧ W.heap.size = w.heap.size + 3 ∧ W.heap.size < w1.heap.size) := by
    subst hW1
    have h3 := HW.out.2.1
    refine ⟨(HW.out.1.trans (HB1.out.mono HW.out.1.size)).setCell (p := ⟨w.heap.size + 1 + 1, 0, none⟩) (by show _ ≤ w.heap.size + 1 + 1; omega) _, by simp [World.setCell], ?_, ?_, ?_, h3, hS1⟩
    · exact HO1.out.same fun _ => Below.heap_setCell _ _ _ _ (by show _ ≠ w.heap.size + 1 + 1; omega)
    · exact HQ.out.2.1.other ⟨w.heap.size + 1 + 1, 0, none⟩ _ (by show _ ≠ w.heap.size + 1 + 1; omega)
    · exact HQ.out.2.2.set 0 _
  clear hW1
  refine (HC2.out W1 HW1.out.1).mono ?_
  rintro e w2 ⟨a2, c2, rfl, hO2, hB2, hS2⟩
  have HO2 := hide hO2
  have HB2 : Hid (Below W1.heap.size W1 w2) := hB2
  have p1 := HW1.out.2.2.2.1.below hB2 HW1.out.2.2.2.1.lt
  have p2 := HW1.out.2.2.2.2.1.below hB2 HW1.out.2.2.2.2.1.lt
  have HP := hide (And.intro p1 p2)
  have t0 := p1.cell 0 _ rfl
  have t1 := p1.cell 1 _ rfl
  have t2 := p1.frozen 0
  have t3 := p1.frozen 1
  have u0 := p2.cell 0 _ rfl
  have u1 := p2.cell 1 _ rfl
  have u2 := p2.frozen 0
  have u3 := p2.frozen 1
  clear hO2 hB2 p1 p2 x0 x1 y0 y1 z1 HC1 HC2 HQ HO1 HB1
  go_wp2_with fail
  refine bodyPost_ret (v := .agg #[.slice a1 P.length c1, .slice a2 N.length c2]) (by simp [results, Tryd.results6, go_sem, t0, t1]) rfl ⟨_, _, _, _, rfl, ?_, ?_, ?_⟩
  all_goals
    have h1 := HW1.out.2.1
    have h3 := HW1.out.2.2.2.2.2.1
    have h4 := HW1.out.2.2.2.2.2.2
    have h5 := HB2.out.size
    generalize hw3 : ((w2.setCell ⟨w.heap.size + 1 + 1, 1, none⟩ (.slice a2 N.length c2)).setCell ⟨w.heap.size + 1, 0, none⟩ (.slice a1 P.length c1)).setCell ⟨w.heap.size + 1, 1, none⟩ (.slice a2 N.length c2) = w3
    have hs : ∀ k, W.heap.size ≤ k → w3.heap[k]? = w2.heap[k]? := fun k hk => by
      rw [← hw3, Below.heap_setCell _ _ _ _ (by show k ≠ w.heap.size + 1; omega), Below.heap_setCell _ _ _ _ (by show k ≠ w.heap.size + 1; omega), Below.heap_setCell _ _ _ _ (by show k ≠ w.heap.size + 1 + 1; omega)]
    have hz : w3.heap.size = w2.heap.size := by rw [← hw3]; simp [World.setCell]
  · refine (OwnRcs.same (HW1.out.2.2.1.same fun _ => HB2.out.block _ (by omega)) (fun _ => hs _ (by omega))).rcs.wide (by omega) (by omega)
  · refine (HO2.out.same fun _ => hs _ (by omega)).rcs.wide (by omega) (by omega)
  · rw [← hw3]
    exact (((HW1.out.1.trans (HB2.out.mono HW1.out.1.size)).setCell (p := ⟨w.heap.size + 1 + 1, 1, none⟩) (by show _ ≤ w.heap.size + 1 + 1; omega) _).setCell (p := ⟨w.heap.size + 1, 0, none⟩) (by show _ ≤ w.heap.size + 1; omega) _).setCell (p := ⟨w.heap.size + 1, 1, none⟩) (by show _ ≤ w.heap.size + 1; omega) _

end Go.Proofs.YtblcmnlbapbebaaDoor
