/- markTreeS and markTree, walked. -/
import Derived.Test.YtifbbbgcdklaaaaProg
import Derived.Test.YtifbbbgcdklaaaaMarkT
namespace Go.Proofs.Ytifbbbgcdklaaaa
open Go.RowKit

theorem two_sets (w : World) (bk o x : Nat) (v0 v1 : Value) (h0 : x ≠ o) (h1 : x ≠ o + 1) : ((w.setCell ⟨bk, o, none⟩ v0).setCell ⟨bk, o + 1, none⟩ v1).cell? ⟨bk, x, none⟩ = w.cell? ⟨bk, x, none⟩ := by
  have ne : ∀ x y : Nat, x ≠ y → (⟨bk, x, none⟩ : Addr) ≠ ⟨bk, y, none⟩ := fun x y h e => by injection e with _ e2 _; exact h e2
  rw [World.cell?_setCell_other _ _ _ _ (ne _ _ (by omega)), World.cell?_setCell_other _ _ _ _ (ne _ _ (by omega))]
theorem mod3 (k : Nat) : ((k : Int) % 3 == 0) = (k % 3 == 0) := by
  rw [Bool.eq_iff_iff]
  simp
  omega

theorem kid_done {n : Nat} {l : List (T (n + 1))} {lo hi bk k j kj : Nat} {s e : Nat → Nat} {v : Value} {w wr w4 w5 w6 : World} (hj : j < l.length) (hkj : kj = k + ((l.take j).map (cntH (n + 1))).sum)
    (hR : OwnKids (Own wr (n + 1)) (headT (n + 1)) wr lo hi bk s e v (mixK (markH (n + 1)) (cntH (n + 1)) l k j) ∧ InR lo hi w wr ∧ KeepK bk l.length s e w wr) (hhi : hi ≤ w.heap.size)
    (S : Stage bk (j * 5) (.bool ((kj : Int) % 3 == 0)) (.int .i64 ((kj : Int) + 1)) (.string (mtext (kj + 2))) wr w4) (I5 : InR (s j) (e j) w4 w5) (I6 : InR (s j) (e j) w5 w6) {nv kv : Value}
    (c3 : wr.cell? ⟨bk, j * 5 + 3, none⟩ = some nv) (c4 : wr.cell? ⟨bk, j * 5 + 4, none⟩ = some kv) {bn bk' : Nat} {s' e' : Nat → Nat} (hN5 : OwnStrs w5 (s j) (e j) bn nv (markL (kj + 3) l[j].names))
    (hK6 : OwnKids (Own w6 n) (headT n) w6 (s j) (e j) bk' s' e' kv (markK (markH n) (cntH n) l[j].kids (kj + 3 + l[j].names.length))) (hkeep : KeepK bk' l[j].kids.length s' e' w5 w6) (hne : bn ≠ bk') (hsep : ∀ i, i < l[j].kids.length → ¬ (s' i ≤ bn ∧ bn < e' i)) (hb : kj + 3 ≤ 1073741824) :
    OwnKids (Own w6 (n + 1)) (headT (n + 1)) w6 lo hi bk s e v (mixK (markH (n + 1)) (cntH (n + 1)) l k (j + 1)) ∧ InR lo hi w w6 ∧ KeepK bk l.length s e w w6 := by
  obtain ⟨hO, hI, hKp⟩ := hR
  have hml := mixK_length (markH (n + 1)) (cntH (n + 1)) l k j
  have q := hO.2.2.2.1
  have hbk := hO.2.2.1 (by omega)
  have ord : ∀ i, i < l.length → s i ≤ e i ∧ (i + 1 < l.length → e i ≤ s (i + 1)) := fun i hi => ⟨(q i (by omega)).2.1, fun h => (q i (by omega)).2.2.2.1 (by omega)⟩
  have qj := q j (by omega)
  have hs0 := hI.size
  have hs4 := S.inr.size
  have hs5 := I5.size
  have hs6 := I6.size
  have blk : ∀ x, x < wr.heap.size → x ≠ bk → ¬ (s j ≤ x ∧ x < e j) → w6.heap[x]? = wr.heap[x]? := fun x h1 h2 h3 => ((I6.block x (by omega) h3).trans (I5.block x (by omega) h3)).trans (S.inr.block x h1 (by omega))
  have bkb : w6.heap[bk]? = w4.heap[bk]? := (I6.block bk (by omega) qj.2.2.2.2).trans (I5.block bk (by omega) qj.2.2.2.2)
  have bc : ∀ x, w6.cell? ⟨bk, x, none⟩ = w4.cell? ⟨bk, x, none⟩ := fun x => World.cell?_of_block (a := ⟨bk, x, none⟩) bkb
  refine ⟨?_, ?_, ?_⟩
  · rw [mixK_succ _ _ _ _ _ hj, ← hkj]
    refine OwnKids.put hO (t' := markH (n + 1) l[j] kj) (fun i hi hne x h1 h2 => blk x (by have := q i hi; omega) (fun e1 => by have := (q i hi).2.2.2.2; subst e1; exact this ⟨h1, h2⟩) (kids_apart ord (by omega) hj hne x h1 h2)) (fun x h1 h2 h3 => by rw [bc]; exact S.cells x h1 h2 h3)
      (fun x => by rw [World.frozen?_of_block (a := ⟨bk, x, none⟩) bkb]; exact S.frozen x) ?_ ?_ ?_ c3 c4 ?_
    · rw [bc, S.c0, mod3]; rfl
    · rw [bc, S.c1]; rfl
    · rw [bc, S.c2]; rfl
    · exact own_marked hN5 (by omega) hK6 hkeep hne hsep (by have := mtext_size (kj + 2); unfold maxLen; omega) (wf_small (by omega))
  · exact ((hI.trans (S.inr.wide hbk.1 (by omega))).trans (I5.wide qj.1 qj.2.2.1)).trans (I6.wide qj.1 qj.2.2.1)
  · intro x h1 h2 h3
    exact (blk x (by omega) h2 (h3 j hj)).trans (hKp x h1 h2 h3)

def MarkKidsC (n : Nat) : Prop := ∀ (l : List (T n)) (v : Value) (bk k : Nat) (s e : Nat → Nat) (w : World) (lo hi : Nat), OwnKids (Own w n) (headT n) w lo hi bk s e v l → hi ≤ w.heap.size → 0 < k → k + (l.map (cntH n)).sum ≤ 1073741824 →
  Calls Try.prog 31 #[v, .int .i64 k] w fun e' w' => e' = .returned (.int .i64 ((k + (l.map (cntH n)).sum : Nat) : Int)) ∧ OwnKids (Own w' n) (headT n) w' lo hi bk s e v (markK (markH n) (cntH n) l k) ∧ InR lo hi w w' ∧ KeepK bk l.length s e w w'

set_option maxHeartbeats 4000000 in
set_option maxRecDepth 100000 in
theorem markKids_step (n : Nat) (ih : ∀ m, n = m + 1 → MarkKidsC m) : MarkKidsC n := by
  intro l v bk k s e w lo hi hO hhi hk0 hk
  obtain ⟨a, cap, rfl, ha⟩ : ∃ a cap, v = .slice a l.length cap ∧ (0 < l.length → a = some ⟨bk, 0, none⟩) := hO.1
  have hl : l.length ≤ 9223372036854775807 := hO.2.1
  have HB := hide hO.2.2.1
  have HO := hide hO
  have HI := hide ih
  clear hO ih
  generalize hres : k + (l.map (cntH n)).sum = kend
  have HEnd := hide hres
  rw [hres] at hk
  clear hres
  go_enter Try.func31, Try.ntmps31
  go_wp2_with fail
  go_loopw [1, 5] (fun x i wr => ∃ (j kj : Nat), j ≤ l.length ∧ x = .int .i64 (kj : Int) ∧ i = .int .i64 j ∧ Hid (kj = k + ((l.take j).map (cntH n)).sum) ∧ Hid (OwnKids (Own wr n) (headT n) wr lo hi bk s e (.slice a l.length cap) (mixK (markH n) (cntH n) l k j) ∧ InR lo hi w wr ∧ KeepK bk l.length s e w wr)) (fun _ i _ => l.length - (intOf i).toNat)
  case atStart => exact ⟨0, k, Nat.zero_le _, rfl, rfl, (by simp : k = k + ((l.take 0).map (cntH n)).sum), by rw [mixK_zero]; exact HO.out, InR.refl _ _ _, fun x _ _ _ => rfl⟩
  case round =>
    obtain ⟨j, kj, hj, rfl, rfl, HKj, HR⟩ := hrel
    by_cases hlt : j < l.length
    · cases n with
      | zero => exact Empty.elim (show Empty from l[j])
      | succ n =>
      have ha' := ha (by omega)
      subst ha'
      have hb := HB.out (by omega)
      have hltI : (j : Int) < (l.length : Int) := by omega
      have hj' : j < (mixK (markH (n + 1)) (cntH (n + 1)) l k j).length := by rw [mixK_length]; exact hlt
      obtain ⟨nv, kv, c0, c1, c2, c3, c4, fz, hOj⟩ := HR.out.1.2.2.2.2 j hj'
      rw [mixK_at (markH (n + 1)) (cntH (n + 1)) l k j hlt] at c0 c1 c2 hOj
      have hsm1 := sum_drop (cntH (n + 1)) l j hlt
      have hsm2 := sum_take_le (cntH (n + 1)) l (j + 1)
      have hcn : cntH (n + 1) l[j] = 3 + (l[j].names.length + (l[j].kids.map (cntH n)).sum) := rfl
      have hkj := HKj.out
      have hend := HEnd.out
      have hbound : kj + cntH (n + 1) l[j] ≤ 1073741824 := by omega
      have hkj0 : 0 < kj := by omega
      clear hsm1 hsm2 hkj hend
      obtain ⟨_, _, bn, bk', s', e', hN, hK, hne, hsep⟩ := hOj
      obtain ⟨na, nc, rfl, hna⟩ : ∃ a cap, nv = .slice a l[j].names.length cap ∧ (0 < l[j].names.length → a = some ⟨bn, 0, none⟩) := hN.1
      obtain ⟨ka, kc, rfl, hka⟩ : ∃ a cap, kv = .slice a l[j].kids.length cap ∧ (0 < l[j].kids.length → a = some ⟨bk', 0, none⟩) := hK.1
      have HN := hide hN
      have HK := hide hK
      have HNe := hide hne
      have HSep := hide hsep
      have f0 := fz 0 (by omega)
      have f1 := fz 1 (by omega)
      have f2 := fz 2 (by omega)
      rw [Nat.add_zero] at f0
      have HC : Hid (wr.cell? ⟨bk, j * 5, none⟩ = some (.bool (headT (n + 1) l[j]).1) ∧ wr.cell? ⟨bk, j * 5 + 1, none⟩ = some (.int .i64 (headT (n + 1) l[j]).2.1) ∧ wr.cell? ⟨bk, j * 5 + 2, none⟩ = some (.string (headT (n + 1) l[j]).2.2)) := ⟨c0, c1, c2⟩
      have HC34 : Hid (wr.cell? ⟨bk, j * 5 + 3, none⟩ = _ ∧ wr.cell? ⟨bk, j * 5 + 4, none⟩ = _) := ⟨c3, c4⟩
      have hbs : bk < wr.heap.size := by have := HR.out.2.1.size; omega
      clear hN hK hne hsep fz hna hka hj'
      have qj := HR.out.1.2.2.2.1 j (by rw [mixK_length]; exact hlt)
      have HQ : Hid (e j ≤ hi ∧ ¬ (s j ≤ bk ∧ bk < e j)) := ⟨qj.2.2.1, qj.2.2.2.2⟩
      have HZ : Hid (w.heap.size ≤ wr.heap.size) := HR.out.2.1.size
      clear qj
      have HMT : Hid (∀ W, Calls Try.prog 44 #[.int .i64 ((kj : Int) + 1 + 1)] W fun e' w' => e' = .returned (.string (mtext (kj + 2))) ∧ Below W.heap.size W w') := fun W => markText_any (kj + 2) W (by omega) (by omega)
      have HMS : Hid (∀ W, OwnStrs W (s j) (e j) bn (.slice na l[j].names.length nc) l[j].names → e j ≤ W.heap.size → Calls Try.prog 30 #[.slice na l[j].names.length nc, .int .i64 ((kj : Int) + 1 + 1 + 1)] W fun e' w' => ∃ k5 : Nat, e' = .returned (.int .i64 (k5 : Int)) ∧ k5 = kj + 3 + l[j].names.length ∧ OwnStrs w' (s j) (e j) bn (.slice na l[j].names.length nc) (markL (kj + 3) l[j].names) ∧ InR (s j) (e j) W w' ∧ Aside bn W w') := fun W h1 h2 =>
        (markStringS_any l[j].names _ bn (kj + 3) W (s j) (e j) h1 h2 (by omega) (by omega)).mono fun e' w' ⟨g1, g2, g3, g4⟩ => ⟨_, g1, rfl, g2, g3, g4⟩
      have HMK : Hid (∀ W (k5 : Nat), k5 = kj + 3 + l[j].names.length → OwnKids (Own W n) (headT n) W (s j) (e j) bk' s' e' (.slice ka l[j].kids.length kc) l[j].kids → e j ≤ W.heap.size → Calls Try.prog 31 #[.slice ka l[j].kids.length kc, .int .i64 (k5 : Int)] W fun e2 w' => ∃ k6 : Nat, e2 = .returned (.int .i64 (k6 : Int)) ∧ k6 = kj + cntH (n + 1) l[j] ∧ OwnKids (Own w' n) (headT n) w' (s j) (e j) bk' s' e' (.slice ka l[j].kids.length kc) (markK (markH n) (cntH n) l[j].kids (kj + 3 + l[j].names.length)) ∧ InR (s j) (e j) W w' ∧ KeepK bk' l[j].kids.length s' e' W w') := fun W k5 h0 h1 h2 => by
        subst h0
        exact (HI.out n rfl l[j].kids _ bk' (kj + 3 + l[j].names.length) s' e' W (s j) (e j) h1 h2 (by omega) (by omega)).mono fun e2 w' ⟨g1, g2, g3, g4⟩ => ⟨_, g1, by omega, g2, g3, g4⟩
      clear hcn
      go_wp2_with fail
      refine (HMT.out _).mono ?_
      rintro e3 w3 ⟨rfl, hB3⟩
      have HS4 : Hid (Stage bk (j * 5) (.bool ((kj : Int) % 3 == 0)) (.int .i64 ((kj : Int) + 1)) (.string (mtext (kj + 2))) wr (w3.setCell ⟨bk, j * 5 + 2, none⟩ (.string (mtext (kj + 2))))) := stage_of hbs HC.out.1 HC.out.2.1 HC.out.2.2 hB3
      have hz3 : ((wr.setCell ⟨bk, j * 5, none⟩ (.bool ((kj : Int) % 3 == 0))).setCell ⟨bk, j * 5 + 1, none⟩ (.int .i64 ((kj : Int) + 1))).heap.size = wr.heap.size := by simp
      have hbz := hz3.symm ▸ hbs
      have d2 := (hB3.cell (p := ⟨bk, j * 5 + 2, none⟩) hbz).trans ((two_sets wr bk (j * 5) (j * 5 + 2) _ _ (by omega) (by omega)).trans c2)
      have d3 := (hB3.cell (p := ⟨bk, j * 5 + 3, none⟩) hbz).trans ((two_sets wr bk (j * 5) (j * 5 + 3) _ _ (by omega) (by omega)).trans c3)
      have g2 := (hB3.frozen (p := ⟨bk, j * 5 + 2, none⟩) hbz)
      simp [f2] at g2
      clear hB3 hz3 hbz
      go_wp2_with fail
      generalize hW4 : w3.setCell ⟨bk, j * 5 + 2, none⟩ (.string (mtext (kj + 2))) = w4 at HS4 ⊢
      clear hW4 d2 d3 g2
      have HO4 : Hid (OwnStrs w4 (s j) (e j) bn (.slice na l[j].names.length nc) l[j].names ∧ OwnKids (Own w4 n) (headT n) w4 (s j) (e j) bk' s' e' (.slice ka l[j].kids.length kc) l[j].kids ∧ e j ≤ w4.heap.size) := by
        have hq := HQ.out
        have hz := HZ.out
        have hz4 := HS4.out.inr.size
        have hsame : SameIn (s j) (e j) wr w4 := HS4.out.inr.sameIn (fun x h1 h2 h3 => hq.2 ⟨by omega, by omega⟩) (by omega)
        exact ⟨HN.out.same hsame, HK.out.fine (fun h => hsame bk' (HK.out.2.2.1 h).1 (HK.out.2.2.1 h).2) (fun i hi x h1 h2 => hsame x (by have := HK.out.2.2.2.1 i hi; omega) (by have := HK.out.2.2.2.1 i hi; omega)), by omega⟩
      refine (HMS.out w4 HO4.out.1 HO4.out.2.2).mono ?_
      rintro e5 w5 ⟨k5, rfl, hk5, hN5, hI5, hA5⟩
      have HN5 := hide hN5
      have HI5 := hide hI5
      have HK5 := hide hk5
      have HO5 : Hid (OwnKids (Own w5 n) (headT n) w5 (s j) (e j) bk' s' e' (.slice ka l[j].kids.length kc) l[j].kids ∧ e j ≤ w5.heap.size) := by
        have hz := HO4.out.2.2
        have hz5 := hI5.size
        refine ⟨HO4.out.2.1.fine (fun h => hA5.block bk' (by have := HK.out.2.2.1 h; omega) (fun h => HNe.out h.symm)) (fun i hi x h1 h2 => hA5.block x (by have := HK.out.2.2.2.1 i hi; omega) (fun e1 => HSep.out i hi (by subst e1; exact ⟨h1, h2⟩))), by omega⟩
      have d4 : w5.cell? ⟨bk, j * 5 + 4, none⟩ = some (.slice ka l[j].kids.length kc) := by
        have hz4 := HS4.out.inr.size
        rw [World.cell?_of_block (a := ⟨bk, j * 5 + 4, none⟩) (hI5.block bk (by omega) HQ.out.2), HS4.out.cells _ (by omega) (by omega) (by omega)]
        exact c4
      clear hN5 hI5 hA5 hk5
      go_wp2_with fail
      refine (HMK.out w5 k5 HK5.out HO5.out.1 HO5.out.2).mono ?_
      rintro e6 w6 ⟨k6, rfl, hk6, hK6, hI6, hKe6⟩
      have HK6 := hide hk6
      have HF : Hid (OwnKids (Own w6 (n + 1)) (headT (n + 1)) w6 lo hi bk s e (.slice (some ⟨bk, 0, none⟩) l.length cap) (mixK (markH (n + 1)) (cntH (n + 1)) l k (j + 1)) ∧ InR lo hi w w6 ∧ KeepK bk l.length s e w w6) :=
        kid_done hlt HKj.out HR.out hhi HS4.out HI5.out hI6 HC34.out.1 HC34.out.2 HN5.out hK6 hKe6 HNe.out HSep.out (by have : cntH (n + 1) l[j] = 3 + cntT (n + 1) l[j] := rfl; omega)
      clear hk6 hK6 hI6 hKe6
      go_wp2_with fail
      go_roundw
      case rel => exact ⟨j + 1, k6, by omega, rfl, by go_num, (by have h1 := HK6.out; have h2 := HKj.out; have h3 := sum_drop (cntH (n + 1)) l j hlt; show k6 = _; omega), HF⟩
      case measure => simp [intOf]; omega
    · have e1 : j = l.length := by omega
      subst e1
      have HE : Hid (kj = kend) := by show kj = kend; rw [HKj.out, ← HEnd.out, List.take_length]
      have HF : Hid (OwnKids (Own wr n) (headT n) wr lo hi bk s e (.slice a l.length cap) (markK (markH n) (cntH n) l k) ∧ InR lo hi w wr ∧ KeepK bk l.length s e w wr) := by
        have := HR.out
        rw [mixK_all] at this
        exact this
      clear HR HKj
      go_wp2_with fail
      go_ret
      exact ⟨by rw [HE.out]; rfl, HF.out⟩

theorem markKids_any : ∀ n, MarkKidsC n
  | 0 => markKids_step 0 fun m h => by omega
  | n + 1 => markKids_step (n + 1) fun m h => by
    have : m = n := by omega
    subst this
    exact markKids_any m

set_option maxHeartbeats 1000000 in
theorem markTree_any (n : Nat) (t : T n) (nv kv : Value) (k : Nat) (w : World) (lo hi : Nat) (hO : Own w n lo hi t nv kv) (hhi : hi ≤ w.heap.size) (hk0 : 0 < k) (hk : k + cntT n t ≤ 1073741824) :
    Calls Try.prog 13 #[aggT n t nv kv, .int .i64 k] w fun e w' => e = .returned (.int .i64 ((k + cntT n t : Nat) : Int)) ∧ Own w' n lo hi (markT n t k) nv kv ∧ InR lo hi w w' := by
  cases n with
  | zero => exact Empty.elim (show Empty from t)
  | succ n =>
    obtain ⟨hd, hm, bn, bk, s, e, hN, hK, hne, hsep⟩ := hO
    obtain ⟨na, nc, rfl, _⟩ := hN.1
    obtain ⟨ka, kc, rfl, _⟩ := hK.1
    have HN := hide hN
    have HK := hide hK
    have hcn : cntT (n + 1) t = t.names.length + (t.kids.map (cntH n)).sum := rfl
    rw [hcn] at hk ⊢
    have HMS : Hid (∀ W, Below w.heap.size w W → Calls Try.prog 30 #[.slice na t.names.length nc, .int .i64 (k : Int)] W fun e' w' => ∃ k5 : Nat, e' = .returned (.int .i64 (k5 : Int)) ∧ k5 = k + t.names.length ∧ OwnStrs w' lo hi bn (.slice na t.names.length nc) (markL k t.names) ∧ InR lo hi W w' ∧ Aside bn W w') := fun W hW =>
      (markStringS_any t.names _ bn k W lo hi (HN.out.same (sameIn_below hW hhi)) (Nat.le_trans hhi hW.size) hk0 (by omega)).mono fun e' w' ⟨g1, g2, g3, g4⟩ => ⟨_, g1, rfl, g2, g3, g4⟩
    have HMK : Hid (∀ W (k5 : Nat), k5 = k + t.names.length → OwnKids (Own W n) (headT n) W lo hi bk s e (.slice ka t.kids.length kc) t.kids → hi ≤ W.heap.size → Calls Try.prog 31 #[.slice ka t.kids.length kc, .int .i64 (k5 : Int)] W fun e2 w' => ∃ k6 : Nat, e2 = .returned (.int .i64 (k6 : Int)) ∧ k6 = k + (t.names.length + (t.kids.map (cntH n)).sum) ∧ OwnKids (Own w' n) (headT n) w' lo hi bk s e (.slice ka t.kids.length kc) (markK (markH n) (cntH n) t.kids (k + t.names.length)) ∧ InR lo hi W w' ∧ KeepK bk t.kids.length s e W w') := fun W k5 h0 h1 h2 => by
      subst h0
      exact (markKids_any n t.kids _ bk (k + t.names.length) s e W lo hi h1 h2 (by omega) (by omega)).mono fun e2 w' ⟨g1, g2, g3, g4⟩ => ⟨_, g1, by omega, g2, g3, g4⟩
    have HNe := hide hne
    have HSep := hide hsep
    have HD : Hid (t.data.size ≤ maxLen ∧ (Lit.int .i64 t.mode).wf = true) := ⟨hd, hm⟩
    generalize hend : k + (t.names.length + (t.kids.map (cntH n)).sum) = kend at HMK ⊢
    clear hend hd hm hne hsep hN hK hcn hk
    show Calls Try.prog 13 #[.agg #[.bool t.dir, .int .i64 t.mode, .string t.data, .slice na t.names.length nc, .slice ka t.kids.length kc], .int .i64 k] w _
    go_enter Try.func13, Try.ntmps13
    go_wp2_with fail
    generalize hW : w.alloc (Obj.cells #[.bool t.dir, .int .i64 t.mode, .string t.data, .slice na t.names.length nc, .slice ka t.kids.length kc] 34) = W
    have HW : Hid (Below w.heap.size w W ∧ W.heap.size = w.heap.size + 1 ∧ Blk W w.heap.size #[.bool t.dir, .int .i64 t.mode, .string t.data, .slice na t.names.length nc, .slice ka t.kids.length kc] 34) := by
      subst hW
      exact ⟨(Below.refl _ _).alloc (Nat.le_refl _) _, by simp, Blk.new w _ _⟩
    clear hW
    refine (HMS.out W HW.out.1).mono ?_
    rintro e5 w5 ⟨k5, rfl, hk5, hN5, hI5, hA5⟩
    have HK5 := hide hk5
    have HN5 := hide hN5
    have HI5 := hide hI5
    have HO5 : Hid (OwnKids (Own w5 n) (headT n) w5 lo hi bk s e (.slice ka t.kids.length kc) t.kids ∧ hi ≤ w5.heap.size) := by
      have hz := HW.out.2.1
      have hz5 := hI5.size
      have hsame : SameIn lo hi w W := sameIn_below HW.out.1 hhi
      have h4 : OwnKids (Own W n) (headT n) W lo hi bk s e (.slice ka t.kids.length kc) t.kids := HK.out.fine (fun h => hsame bk (HK.out.2.2.1 h).1 (HK.out.2.2.1 h).2) (fun i hi x h1 h2 => hsame x (by have := HK.out.2.2.2.1 i hi; omega) (by have := HK.out.2.2.2.1 i hi; omega))
      exact ⟨h4.fine (fun h => hA5.block bk (by have := HK.out.2.2.1 h; omega) (fun h => HNe.out h.symm)) (fun i hi x h1 h2 => hA5.block x (by have := HK.out.2.2.2.1 i hi; omega) (fun e1 => HSep.out i hi (by subst e1; exact ⟨h1, h2⟩))), by omega⟩
    have d4 : w5.cell? ⟨w.heap.size, 4, none⟩ = some (.slice ka t.kids.length kc) := by
      have hz := HW.out.2.1
      rw [World.cell?_of_block (a := ⟨w.heap.size, 4, none⟩) (hI5.block w.heap.size (by omega) (by omega))]
      exact HW.out.2.2.cell 4 _ rfl
    clear hN5 hI5 hA5 hk5
    go_wp2_with fail
    refine (HMK.out w5 k5 HK5.out HO5.out.1 HO5.out.2).mono ?_
    rintro e6 w6 ⟨k6, rfl, hk6, hK6, hI6, hKe6⟩
    have HF : Hid (Own w6 (n + 1) lo hi (markT (n + 1) t k) (.slice na t.names.length nc) (.slice ka t.kids.length kc) ∧ InR lo hi w w6) :=
      ⟨own_marked HN5.out HO5.out.2 hK6 hKe6 HNe.out HSep.out HD.out.1 HD.out.2, ((InR.of_below HW.out.1).trans HI5.out).trans hI6⟩
    subst hk6
    clear hK6 hI6 hKe6
    go_wp2_with fail
    go_ret
    exact ⟨rfl, HF.out⟩

end Go.Proofs.Ytifbbbgcdklaaaa
