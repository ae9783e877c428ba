/- heldStringS, heldTreeS, heldTree: of what is marked they give the number behind the last mark. -/
import Derived.Test.YtnfidecbbijpfaaProg
import Derived.Test.YtnfidecbbijpfaaMarkK
namespace Go.Proofs.Ytnfidecbbijpfaa
open Go.RowKit

set_option maxHeartbeats 1000000 in
theorem heldStringS_any (l : List ByteArray) (v : Value) (k : Nat) (w : World) (lo hi : Nat) (hv : StrsAt w lo hi v (markL k l)) (hhi : hi ≤ w.heap.size) (hk0 : 0 < k) (hk : k + l.length ≤ 1073741824) :
    Calls Try.prog 34 #[v, .int .i64 k] w fun e w' => e = .returned (.int .i64 ((k + l.length : Nat) : Int)) ∧ Below w.heap.size w w' := by
  obtain ⟨a, cap, rfl, hl, _, hc⟩ := hv
  rw [markL_length] at hl ⊢
  unfold maxLen at hl
  have HC : Hid (0 < l.length → ∃ b o, a = some ⟨b, o, none⟩ ∧ lo ≤ b ∧ b < hi ∧ ∀ (i : Nat), i < l.length → w.cell? ⟨b, o + i, none⟩ = some (.string (mtext (k + i)))) := fun h => by
    obtain ⟨b, o, h1, h2, h3, h4⟩ := hc (by rw [markL_length]; exact h)
    exact ⟨b, o, h1, h2, h3, fun i hi => by have := h4 i (by rw [markL_length]; exact hi); rw [markL_get] at this; exact this⟩
  clear hc
  go_enter Try.func34, Try.ntmps34
  go_wp2_with fail
  go_loopw [1, 5] (fun x i wr => ∃ (j kj : Nat), j ≤ l.length ∧ x = .int .i64 (kj : Int) ∧ i = .int .i64 j ∧ Hid (kj = k + j) ∧ Hid (Below w.heap.size w wr)) (fun _ i _ => l.length - (intOf i).toNat)
  case atStart => exact ⟨0, k, Nat.zero_le _, rfl, rfl, rfl, Below.refl _ _⟩
  case round =>
    obtain ⟨j, kj, hj, rfl, rfl, HKj, HB⟩ := hrel
    by_cases hlt : j < l.length
    · obtain ⟨b, o, rfl, hb1, hb2, hcell⟩ := HC.out (by omega)
      have hck := hcell j hlt
      rw [← HKj.out, ← HB.out.cell (p := ⟨b, o + j, none⟩) (by show b < w.heap.size; omega)] at hck
      have hltI : (j : Int) < (l.length : Int) := by omega
      have HMT : Hid (∀ W, Below w.heap.size w W → Calls Try.prog 33 #[.int .i64 (kj : Int)] W fun e' w' => e' = .returned (.string (mtext kj)) ∧ Below w.heap.size w w') := fun W hW => (markText_any kj W (by have := HKj.out; omega) (by have := HKj.out; omega)).mono fun e' w' ⟨h1, h2⟩ => ⟨h1, hW.trans (h2.mono hW.size)⟩
      have HCk : Hid (∀ W, Below w.heap.size w W → W.cell? ⟨b, o + j, none⟩ = some (.string (mtext kj))) := fun W hW => by
        rw [hW.cell (p := ⟨b, o + j, none⟩) (by show b < w.heap.size; omega), HKj.out]; exact hcell j hlt
      have hkjb : kj ≤ 1073741824 := by have := HKj.out; omega
      clear hcell
      go_wp2_with fail
      go_region_with (go_at_call 33; refine (HMT.out _ (by first | exact HB.out.drew | exact HB.out)).mono ?_; rintro e1 w1 ⟨rfl, hB1⟩; have HB1 := hide hB1; have hck1 := HCk.out w1 hB1; clear hB1)
      all_goals
        go_wp2_with fail
        go_roundw
        case rel => exact ⟨j + 1, kj + 1, by omega, by go_num, by go_num, (by show kj + 1 = _; have := HKj.out; omega), HB1⟩
        case measure => simp [intOf]; omega
    · have e1 : j = l.length := by omega
      subst e1
      have hkj := HKj.out
      subst hkj
      go_wp2_with fail
      go_ret
      exact ⟨rfl, HB.out⟩

def HeldKidsC (n : Nat) : Prop := ∀ (l : List (T n)) (v : Value) (k : Nat) (w : World) (lo hi : Nat), KidsAt (Rep w lo hi n) (headT n) w lo hi v (markK (markH n) (cntH n) l k) → hi ≤ w.heap.size → 0 < k → k + (l.map (cntH n)).sum ≤ 1073741824 →
  Calls Try.prog 35 #[v, .int .i64 k] w fun e w' => e = .returned (.int .i64 ((k + (l.map (cntH n)).sum : Nat) : Int)) ∧ Below w.heap.size w w'

set_option maxHeartbeats 4000000 in
set_option maxRecDepth 100000 in
theorem heldKids_step (n : Nat) (ih : ∀ m, n = m + 1 → HeldKidsC m) : HeldKidsC n := by
  intro l v k w lo hi hO hhi hk0 hk
  obtain ⟨a, cap, rfl, hl, hc⟩ := hO
  rw [markK_length] at hl ⊢
  unfold maxLen at hl
  have HC : Hid (0 < l.length → ∃ b o, a = some ⟨b, o, none⟩ ∧ lo ≤ b ∧ b < hi ∧ ∀ (i : Nat) (h : i < l.length), ∃ nv kv,
      w.cell? ⟨b, o + i * 5, none⟩ = some (.bool (headT n (markH n l[i] (k + ((l.take i).map (cntH n)).sum))).1) ∧ w.cell? ⟨b, o + i * 5 + 1, none⟩ = some (.int .i64 (headT n (markH n l[i] (k + ((l.take i).map (cntH n)).sum))).2.1) ∧
      w.cell? ⟨b, o + i * 5 + 2, none⟩ = some (.string (headT n (markH n l[i] (k + ((l.take i).map (cntH n)).sum))).2.2) ∧ w.cell? ⟨b, o + i * 5 + 3, none⟩ = some nv ∧ w.cell? ⟨b, o + i * 5 + 4, none⟩ = some kv ∧ Rep w lo hi n (markH n l[i] (k + ((l.take i).map (cntH n)).sum)) nv kv) := fun h => by
    obtain ⟨b, o, h1, h2, h3, h4⟩ := hc (by rw [markK_length]; exact h)
    refine ⟨b, o, h1, h2, h3, fun i hi => ?_⟩
    have := h4 i (by rw [markK_length]; exact hi)
    rw [markK_get (markH n) (cntH n) l k i hi] at this
    exact this
  have HI := hide ih
  clear hc ih
  generalize hres : k + (l.map (cntH n)).sum = kend
  have HEnd := hide hres
  rw [hres] at hk
  clear hres
  go_enter Try.func35, Try.ntmps35
  go_wp2_with fail
  go_loopw [1, 5] (fun x i wr => ∃ (j kj : Nat), j ≤ l.length ∧ x = .int .i64 (kj : Int) ∧ i = .int .i64 j ∧ Hid (kj = k + ((l.take j).map (cntH n)).sum) ∧ Hid (Below w.heap.size w wr)) (fun _ i _ => l.length - (intOf i).toNat)
  case atStart => exact ⟨0, k, Nat.zero_le _, rfl, rfl, (by simp : k = k + ((l.take 0).map (cntH n)).sum), Below.refl _ _⟩
  case round =>
    obtain ⟨j, kj, hj, rfl, rfl, HKj, HB⟩ := hrel
    by_cases hlt : j < l.length
    · cases n with
      | zero => exact Empty.elim (show Empty from l[j])
      | succ n =>
      obtain ⟨b, o, rfl, hb1, hb2, hcell⟩ := HC.out (by omega)
      obtain ⟨nv, kv, c0, c1, c2, c3, c4, hr⟩ := hcell j hlt
      have hltI : (j : Int) < (l.length : Int) := by omega
      rw [← HKj.out] at c0 c1 c2 hr
      have hsm1 := sum_drop (cntH (n + 1)) l j hlt
      have hsm2 := sum_take_le (cntH (n + 1)) l (j + 1)
      have hcn : cntH (n + 1) l[j] = 3 + (l[j].names.length + (l[j].kids.map (cntH n)).sum) := rfl
      have hkj := HKj.out
      have hend := HEnd.out
      have hbound : kj + cntH (n + 1) l[j] ≤ 1073741824 := by omega
      have hkj0 : 0 < kj := by omega
      clear hsm1 hsm2 hkj hend
      replace c0 : w.cell? ⟨b, o + j * 5, none⟩ = some (.bool ((kj : Int) % 3 == 0)) := by rw [mod3]; exact c0
      replace c1 : w.cell? ⟨b, o + j * 5 + 1, none⟩ = some (.int .i64 ((kj : Int) + 1)) := c1
      replace c2 : w.cell? ⟨b, o + j * 5 + 2, none⟩ = some (.string (mtext (kj + 2))) := c2
      obtain ⟨na, nm, nc, ka, km, kc, rfl, rfl⟩ := hr.slices
      obtain ⟨-, -, hN, hK⟩ := hr
      replace hN : StrsAt w lo hi (.slice na nm nc) (markL (kj + 3) l[j].names) := hN
      replace hK : KidsAt (Rep w lo hi n) (headT n) w lo hi (.slice ka km kc) (markK (markH n) (cntH n) l[j].kids (kj + 3 + l[j].names.length)) := hK
      have HCW : Hid (∀ W, Below w.heap.size w W → W.cell? ⟨b, o + j * 5, none⟩ = some (.bool ((kj : Int) % 3 == 0)) ∧ W.cell? ⟨b, o + j * 5 + 1, none⟩ = some (.int .i64 ((kj : Int) + 1)) ∧ W.cell? ⟨b, o + j * 5 + 2, none⟩ = some (.string (mtext (kj + 2))) ∧ W.cell? ⟨b, o + j * 5 + 3, none⟩ = some (.slice na nm nc) ∧ W.cell? ⟨b, o + j * 5 + 4, none⟩ = some (.slice ka km kc)) := fun W hW =>
        ⟨(hW.cell (p := ⟨b, _, none⟩) (by show b < w.heap.size; omega)).trans c0, (hW.cell (p := ⟨b, _, none⟩) (by show b < w.heap.size; omega)).trans c1, (hW.cell (p := ⟨b, _, none⟩) (by show b < w.heap.size; omega)).trans c2, (hW.cell (p := ⟨b, _, none⟩) (by show b < w.heap.size; omega)).trans c3, (hW.cell (p := ⟨b, _, none⟩) (by show b < w.heap.size; omega)).trans c4⟩
      have HMT : Hid (∀ W, Below w.heap.size w W → Calls Try.prog 33 #[.int .i64 ((kj : Int) + 1 + 1)] W fun e' w' => e' = .returned (.string (mtext (kj + 2))) ∧ Below w.heap.size w w') := fun W hW => (markText_any (kj + 2) W (by omega) (by omega)).mono fun e' w' ⟨h1, h2⟩ => ⟨h1, hW.trans (h2.mono hW.size)⟩
      have HMS : Hid (∀ W, Below w.heap.size w W → Calls Try.prog 34 #[.slice na nm nc, .int .i64 ((kj : Int) + 1 + 1 + 1)] W fun e' w' => ∃ k5 : Nat, e' = .returned (.int .i64 (k5 : Int)) ∧ k5 = kj + 3 + l[j].names.length ∧ Below w.heap.size w w') := fun W hW =>
        (heldStringS_any l[j].names _ (kj + 3) W lo hi (hN.keep hW hhi) (Nat.le_trans hhi hW.size) (by omega) (by omega)).mono fun e' w' ⟨g1, g2⟩ => ⟨_, g1, rfl, hW.trans (g2.mono hW.size)⟩
      have HMK : Hid (∀ W (k5 : Nat), k5 = kj + 3 + l[j].names.length → Below w.heap.size w W → Calls Try.prog 35 #[.slice ka km kc, .int .i64 (k5 : Int)] W fun e2 w' => ∃ k6 : Nat, e2 = .returned (.int .i64 (k6 : Int)) ∧ k6 = kj + cntH (n + 1) l[j] ∧ Below w.heap.size w w') := fun W k5 h0 hW => by
        subst h0
        exact (HI.out n rfl l[j].kids _ (kj + 3 + l[j].names.length) W lo hi (hK.keepB hW hhi) (Nat.le_trans hhi hW.size) (by omega) (by omega)).mono fun e2 w' ⟨g1, g2⟩ => ⟨_, g1, by omega, hW.trans (g2.mono hW.size)⟩
      clear hcn c0 c1 c2 c3 c4 hN hK hcell
      obtain ⟨c0, c1, c2, c3, c4⟩ := HCW.out wr HB.out
      go_wp2_with fail
      go_cut [39] from 32 to 38 (fun x wx => x = .bool false ∧ Hid (Below w.heap.size w wx))
      case first =>
        go_region_with (go_at_call 33; refine (HMT.out _ (by first | exact HB.out.drew | exact HB.out)).mono ?_; rintro e1 w1 ⟨rfl, hB1⟩; have HB1 := hide hB1; obtain ⟨_, _, d2, _, _⟩ := HCW.out w1 hB1; clear hB1)
        all_goals
          go_wp2_with fail
          go_meet
          exact ⟨rfl, HB1⟩
      case rest =>
        obtain ⟨rfl, HB1⟩ := hcut
        clear c0 c1 c2 c3 c4
        have c3 := (HCW.out wc HB1.out).2.2.2.1
        go_wp2_with fail
        refine (HMS.out wc HB1.out).mono ?_
        rintro e5 w5 ⟨k5, rfl, hk5, hB5⟩
        have HK5 := hide hk5
        have HB5 := hide hB5
        have hk5n : ¬ ((k5 : Int) < 0) := by omega
        have d4 := (HCW.out w5 hB5).2.2.2.2
        clear hk5 hB5 c3
        go_wp2_with fail
        refine (HMK.out w5 k5 HK5.out HB5.out).mono ?_
        rintro e6 w6 ⟨k6, rfl, hk6, hB6⟩
        have HK6 := hide hk6
        have HB6 := hide hB6
        have hk6n : ¬ ((k6 : Int) < 0) := by omega
        clear hk6 hB6
        go_wp2_with fail
        go_roundw
        case rel => exact ⟨j + 1, k6, by omega, rfl, by go_num, (by have h1 := HK6.out; have h2 := HKj.out; have h3 := sum_drop (cntH (n + 1)) l j hlt; show k6 = _; omega), HB6⟩
        case measure => simp [intOf]; omega
    · have e1 : j = l.length := by omega
      subst e1
      have HE : Hid (kj = kend) := by show kj = kend; rw [HKj.out, ← HEnd.out, List.take_length]
      go_wp2_with fail
      go_ret
      exact ⟨by rw [HE.out]; rfl, HB.out⟩

theorem heldKids_any : ∀ n, HeldKidsC n
  | 0 => heldKids_step 0 fun m h => by omega
  | n + 1 => heldKids_step (n + 1) fun m h => by
    have : m = n := by omega
    subst this
    exact heldKids_any m

set_option maxHeartbeats 1000000 in
theorem heldTree_any (n : Nat) (t : T n) (nv kv : Value) (k : Nat) (d : Bool) (mo : Int) (da : ByteArray) (w : World) (lo hi : Nat) (hR : Rep w lo hi n (markT n t k) nv kv) (hhi : hi ≤ w.heap.size) (hk0 : 0 < k) (hk : k + cntT n t ≤ 1073741824) :
    Calls Try.prog 20 #[.agg #[.bool d, .int .i64 mo, .string da, nv, kv], .int .i64 k] w fun e w' => e = .returned (.int .i64 ((k + cntT n t : Nat) : Int)) ∧ Below w.heap.size w w' := by
  cases n with
  | zero => exact Empty.elim (show Empty from t)
  | succ n =>
    obtain ⟨na, nm, nc, ka, km, kc, rfl, rfl⟩ := hR.slices
    obtain ⟨_, _, hN, hK⟩ := hR
    have hN : StrsAt w lo hi (.slice na nm nc) (markL k t.names) := hN
    have hK : KidsAt (Rep w lo hi n) (headT n) w lo hi (.slice ka km kc) (markK (markH n) (cntH n) t.kids (k + t.names.length)) := hK
    have hcn : cntT (n + 1) t = t.names.length + (t.kids.map (cntH n)).sum := rfl
    rw [hcn] at hk ⊢
    have HMS : Hid (∀ W, Below w.heap.size w W → Calls Try.prog 34 #[.slice na nm nc, .int .i64 (k : Int)] W fun e' w' => ∃ k5 : Nat, e' = .returned (.int .i64 (k5 : Int)) ∧ k5 = k + t.names.length ∧ Below W.heap.size W w') := fun W hW =>
      (heldStringS_any t.names _ k W lo hi (hN.keep hW hhi) (Nat.le_trans hhi hW.size) hk0 (by omega)).mono fun e' w' ⟨g1, g2⟩ => ⟨_, g1, rfl, g2⟩
    have HMK : Hid (∀ W (k5 : Nat), k5 = k + t.names.length → Below w.heap.size w W → Calls Try.prog 35 #[.slice ka km kc, .int .i64 (k5 : Int)] W fun e2 w' => ∃ k6 : Nat, e2 = .returned (.int .i64 (k6 : Int)) ∧ k6 = k + (t.names.length + (t.kids.map (cntH n)).sum) ∧ Below w.heap.size w w') := fun W k5 h0 hW => by
      subst h0
      exact (heldKids_any n t.kids _ (k + t.names.length) W lo hi (hK.keepB hW hhi) (Nat.le_trans hhi hW.size) (by omega) (by omega)).mono fun e2 w' ⟨g1, g2⟩ => ⟨_, g1, by omega, hW.trans (g2.mono hW.size)⟩
    clear hN hK hcn
    generalize hend : k + (t.names.length + (t.kids.map (cntH n)).sum) = kend at HMK ⊢
    clear hend
    go_enter Try.func20, Try.ntmps20
    go_wp2_with fail
    generalize hW : w.alloc (Obj.cells #[.bool d, .int .i64 mo, .string da, .slice na nm nc, .slice ka km kc] 30) = W
    have HW : Hid (Below w.heap.size w W ∧ W.heap.size = w.heap.size + 1 ∧ Blk W w.heap.size #[.bool d, .int .i64 mo, .string da, .slice na nm nc, .slice ka km kc] 30) := by
      subst hW
      exact ⟨(Below.refl _ _).alloc (Nat.le_refl _) _, by simp, Blk.new w _ _⟩
    clear hW
    refine (HMS.out W HW.out.1).mono ?_
    rintro e5 w5 ⟨k5, rfl, hk5, hB5⟩
    have HK5 := hide hk5
    have HBw5 : Hid (Below w.heap.size w w5) := HW.out.1.trans (hB5.mono HW.out.1.size)
    have d4 : w5.cell? ⟨w.heap.size, 4, none⟩ = some (.slice ka km kc) := (HW.out.2.2.below hB5 (by have := HW.out.2.1; omega)).cell 4 _ rfl
    have hk5n : ¬ ((k5 : Int) < 0) := by omega
    clear hk5 hB5
    go_wp2_with fail
    refine (HMK.out w5 k5 HK5.out HBw5.out).mono ?_
    rintro e6 w6 ⟨k6, rfl, hk6, hB6⟩
    have HB6 := hide hB6
    have hk6n : ¬ ((k6 : Int) < 0) := by omega
    subst hk6
    clear hB6
    go_wp2_with fail
    go_ret
    exact ⟨rfl, HB6.out⟩

end Go.Proofs.Ytnfidecbbijpfaa
