/- The law of LayerRead. -/
import Derived.Test.YtkidfflmbfnogaaDoorM1
import Derived.Test.YtkidfflmbfnogaaDoorM2
import Derived.Test.YtkidfflmbfnogaaDoorM5
namespace Go.Proofs.YtkidfflmbfnogaaDoor
open Go.RowKit

theorem ownE_same {w w' : World} {lo hi bk : Nat} {bs : Nat → Nat} {v : Value} {l : List Ent} (h : OwnEnts w lo hi bk bs v l) (hb : Below w.heap.size w w') (hh : hi ≤ w.heap.size) : OwnEnts w' lo hi bk bs v l := h.same (sameIn_below hb hh)
theorem ownE_nil (w : World) (lo hi : Nat) : OwnEnts w lo hi 0 (fun _ => 0) (.slice none 0 0) [] :=
  ⟨⟨none, 0, rfl, fun h => by simp at h⟩, by simp, fun h => by simp at h, fun i h => by simp at h⟩
theorem allL_len : ∀ (l : List ByteArray) (ms : List Ent), allL l = some ms → ms.length = l.length
  | [], ms, h => by simp [allL] at h; subst h; rfl
  | x :: l, ms, h => by
    rw [allL] at h
    cases hr : readL (cutB 32 x) with
    | none => rw [hr] at h; cases h
    | some e =>
      rw [hr] at h
      obtain ⟨q, hq, rfl⟩ := Option.map_eq_some_iff.1 h
      simp [allL_len l q hq]
theorem sumE_small {ms : List Ent} (h : ∀ m ∈ ms, m.path.length ≤ 4) (hl : ms.length ≤ 6001) : 1 + (ms.map cE).sum ≤ 1073741824 := by
  have h5 : ∀ (l : List Ent), (∀ m ∈ l, cE m ≤ 8) → (l.map cE).sum ≤ 8 * l.length := by
    intro l
    induction l with
    | nil => simp
    | cons m r ih =>
      intro hm
      have := ih (fun x hx => hm x (List.mem_cons_of_mem _ hx))
      have := hm m List.mem_cons_self
      simp
      omega
  have := h5 ms (fun m hm => by have := h m hm; unfold cE; omega)
  omega

/-- What both readings come to. -/
theorem both_readE (B : Nat) (s : ByteArray) (hs : s.size ≤ 1048576) (w : World) (hF : FormsAt w) (hE : Env B w) (hB : B ≤ w.heap.size) : ∃ (ms : List Ent) (f : Bool), 1 + (ms.map cE).sum ≤ 1073741824 ∧
    (∀ W, Below w.heap.size w W → Calls Tryd.prog 5 #[.string s] W fun e w' => ∃ v bk bs, e = .returned (.tuple #[v, .bool f]) ∧ OwnEnts w' W.heap.size w'.heap.size bk bs v ms ∧ Below W.heap.size W w') ∧
    (∀ W, Calls Tryd.prog 4 #[.string s] W fun e w' => ∃ v, e = .returned (.tuple #[v, .bool f]) ∧ EntsAt w' W.heap.size w'.heap.size v ms ∧ Below W.heap.size W w') := by
  have hi := ents_same s
  cases h : specE s with
  | some ms =>
    have hok : (∀ m ∈ ms, entB m = true ∧ (Lit.int .i64 m.what).wf = true) ∧ ms.length ≤ 6001 := by
      have h2 := h
      unfold specE at h2
      split at h2
      · rename_i hc
        refine ⟨allL_ok _ _ h2, ?_⟩
        have e1 := allL_len _ _ h2
        have e2 := cutB_len 10 s
        rw [List.length_dropLast] at e1
        have := hc.1
        omega
      · cases h2
    refine ⟨ms, true, sumE_small (fun m hm => (entB_parts m (hok.1 m hm).1).2.1) hok.2, fun W hW => (implLayerRead_any B s hs W (hF.keep hW) (hE.keep (hW.mono hB)) (Nat.le_trans hB hW.size)).mono fun e w' ⟨h1, h2⟩ => ?_, fun W => (specLayerRead_any s hs W).mono fun e w' ⟨h1, h2⟩ => ?_⟩
    · unfold ReadLy at h2; rw [hi, h] at h2
      obtain ⟨v, xs, bs, h3, h4⟩ := h2
      obtain ⟨bk, h5⟩ := h4.own (fun i hi => by
        obtain ⟨k1, k2⟩ := hok.1 ms[i] (List.getElem_mem hi)
        obtain ⟨_, _, m0, m7, hd⟩ := entB_parts ms[i] k1
        exact ⟨k2, mode_wf8 m0 m7, by unfold maxLen; omega⟩)
      exact ⟨v, bk, bs, h3, h5.wide (by omega) (Nat.le_refl _), h1⟩
    · unfold ReadLs at h2; rw [h] at h2
      obtain ⟨v, h3, h4⟩ := h2
      exact ⟨v, h3, h4, h1⟩
  | none =>
    refine ⟨[], false, by simp, fun W hW => (implLayerRead_any B s hs W (hF.keep hW) (hE.keep (hW.mono hB)) (Nat.le_trans hB hW.size)).mono fun e w' ⟨h1, h2⟩ => ?_, fun W => (specLayerRead_any s hs W).mono fun e w' ⟨h1, h2⟩ => ?_⟩
    · unfold ReadLy at h2; rw [hi, h] at h2
      exact ⟨_, 0, fun _ => 0, h2, ownE_nil _ _ _, h1⟩
    · unfold ReadLs at h2; rw [h] at h2
      obtain ⟨a, c, h3⟩ := h2
      exact ⟨_, h3, ⟨a, c, rfl, by simp, fun h0 => by simp at h0⟩, h1⟩

set_option maxRecDepth 100000 in
set_option maxHeartbeats 4000000 in
theorem layerReadLaw_any (B : Nat) (s : ByteArray) (w : World) (hF : FormsAt w) (hE : Env B w) (hB : B ≤ w.heap.size) :
    Calls Tryd.prog 3 #[.string s] w fun e w' => e = .returned (.bool true) ∧ Below w.heap.size w w' := by
  by_cases hs : s.size ≤ 1048576
  · obtain ⟨ms, f, hsum, hG, hS⟩ := both_readE B s hs w hF hE hB
    clear hF hE
    have HG := hide hG
    have hsi : ¬ (1048576 < (s.size : Int)) := by omega
    have hff : (f != f) = false := by simp
    clear hG
    go_enter Tryd.func3, Tryd.ntmps3
    go_wp2_with fail
    refine (hS w).mono ?_
    rintro e w1 ⟨v1, rfl, hM1, hB1⟩
    have HB1 := hide hB1
    have HM1 := hide hM1
    clear hS hM1 hB1
    go_wp2_with fail
    refine (HG.out w1 HB1.out).mono ?_
    rintro e w2 ⟨v2, bk, bs, rfl, hO2, hB2⟩
    have HB2 := hide hB2
    have HO2 := hide hO2
    have HEq := hide (eqEntryS_any ms v2 v1 w2 w1.heap.size w2.heap.size w.heap.size w1.heap.size hO2.ents (HM1.out.keep hB2 (Nat.le_refl _)) (Nat.le_refl _) hB2.size)
    clear hO2 hB2
    go_wp2_with (go_at_call 6; refine HEq.out.mono ?_; rintro e w3 ⟨rfl, hB3⟩; have HB3 := hide hB3; clear hB3)
    have HMk := hide (markEntryS_any ms v2 bk 1 bs w3 w1.heap.size w2.heap.size (ownE_same HO2.out HB3.out (Nat.le_refl _)) HB3.out.size (by omega) hsum)
    refine HMk.out.mono ?_
    rintro e w4 ⟨rfl, hO4, hR4⟩
    have HO4 := hide hO4
    have HR4 := hide hR4
    have hz4 : w2.heap.size ≤ w4.heap.size := Nat.le_trans HB3.out.size hR4.size
    have HHd := hide (heldEntryS_any ms v2 1 w4 w1.heap.size w2.heap.size hO4.ents hz4 (by omega) hsum)
    have HB24 : Hid (Below w1.heap.size w1 w4) := (HB2.out.trans (HB3.out.mono HB2.out.size)).trans (hR4.toBelow (Nat.le_refl _) (Nat.le_trans HB2.out.size HB3.out.size))
    clear hO4 hR4 HMk HEq
    generalize hN : 1 + (ms.map cE).sum = N at *
    have hn0 : ¬ ((N : Int) < 0) := by omega
    have hn1 : ((N : Int) != (N : Int)) = false := by simp
    go_wp2_with fail
    refine HHd.out.mono ?_
    rintro e w5 ⟨rfl, hB5⟩
    have HB5 := hide hB5
    clear hB5 HHd
    go_wp2_with fail
    refine (HG.out w5 (HB1.out.trans ((HB24.out.trans (HB5.out.mono HB24.out.size)).mono HB1.out.size))).mono ?_
    rintro e w6 ⟨v6, bk6, bs6, rfl, hO6, hB6⟩
    have HB46 : Hid (Below w4.heap.size w4 w6) := HB5.out.trans (hB6.mono HB5.out.size)
    have HB16 : Hid (Below w1.heap.size w1 w6) := HB24.out.trans (HB46.out.mono HB24.out.size)
    have HEq := hide (eqEntryS_any ms v6 v1 w6 w5.heap.size w6.heap.size w.heap.size w1.heap.size hO6.ents (HM1.out.keep HB16.out (Nat.le_refl _)) (Nat.le_refl _) HB16.out.size)
    clear hO6 hB6
    go_wp2_with (go_at_call 6; refine HEq.out.mono ?_; rintro e w7 ⟨rfl, hB7⟩; have HB7 := hide hB7; clear hB7)
    have HB47 : Hid (Below w4.heap.size w4 w7) := HB46.out.trans (HB7.out.mono HB46.out.size)
    have HHd := hide (heldEntryS_any ms v2 1 w7 w1.heap.size w2.heap.size (HO4.out.ents.keep HB47.out hz4) (Nat.le_trans hz4 HB47.out.size) (by omega) (by rw [hN]; exact hsum))
    rw [hN] at HHd
    refine HHd.out.mono ?_
    rintro e w8 ⟨rfl, hB8⟩
    have HB8 : Hid (Below w.heap.size w w8) := HB1.out.trans ((HB16.out.trans ((HB7.out.trans (hB8.mono HB7.out.size)).mono HB16.out.size)).mono HB1.out.size)
    clear hB8 HHd HEq
    go_wp2_with fail
    go_ret
    exact ⟨rfl, HB8.out⟩
  · have hsi : (1048576 < (s.size : Int)) := by omega
    go_enter Tryd.func3, Tryd.ntmps3
    go_wp2_with fail
    go_ret
    exact ⟨rfl, Below.refl _ _⟩

end Go.Proofs.YtkidfflmbfnogaaDoor
