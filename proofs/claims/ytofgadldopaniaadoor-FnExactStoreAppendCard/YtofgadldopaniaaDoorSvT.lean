/- What the specification writes for a checkpoint; its StoreNew. -/
import Derived.Test.YtofgadldopaniaaDoorSvS
namespace Go.Proofs.YtofgadldopaniaaDoor
open Go.RowKit

theorem grown_keeps {W W1 w : World} {o : Obj} {v : Value} {lo : Nat} {l : List Rw} (h : RwRow W lo v l) (hb : Below w.heap.size w W) (hlo : w.heap.size ≤ lo) (hg : (W.alloc o).grownBy W1 v.ownBlock) : Below w.heap.size w W1 :=
  (hb.alloc hb.size o).grown hg (by have := hb.size; simp; omega) (fun k hk => by have := row_base h k hk; omega)

set_option maxHeartbeats 4000000 in
set_option maxRecDepth 100000 in
theorem l22Saved_any (g : Nat) (s : ByteArray) (w : World) (hg : g ≤ 1048576) (hs : s.size ≤ 1048576) :
    Calls Tryd.prog 21 #[.int .i64 (g : Int), .string s] w fun e w' => ∃ v, e = .returned v ∧ RwRow w' w.heap.size v (savedV g s) ∧ Below w.heap.size w w' := by
  obtain ⟨iR, hiR', hzR, hsR, hbR⟩ := info_R
  have hiR := hide hiR'
  clear hiR'
  have HM := hide (fun W => l22Many64_any s W hs)
  have HA := hide (fun W => l22Area_any g W hg)
  have HP := hide (fun (i : Nat) (hi : i ≤ 1048576) W => l22Piece_any s i 64 W hs (by omega) hi)
  have HH := hide (fun W => l22Head_any g s W hg hs)
  have HSv : Hid (savedV g s = wrs (piece s 64) (14 + g % 2 * 90) ((s.size + 63) / 64) ++ [⟨((g % 2 : Nat) : Int), headC g s.size⟩]) := rfl
  have hN : (s.size + 63) / 64 ≤ 16385 := by omega
  generalize (s.size + 63) / 64 = N at *
  have hAr : 14 + g % 2 * 90 ≤ 104 := by omega
  generalize 14 + g % 2 * 90 = A at *
  generalize hF : piece s 64 = F at *
  generalize headC g s.size = H at *
  generalize savedV g s = V at *
  go_enter Tryd.func21, Tryd.ntmps21
  go_wp2_with fail
  go_loopw [5, 6] (fun o i wr => ∃ (ov : Value) (k : Nat), ov = o ∧ k ≤ N ∧ i = .int .i64 k ∧ Hid (RwRow wr w.heap.size ov (wrs F A k)) ∧ Hid (Below w.heap.size w wr)) (fun _ i _ => N - (intOf i).toNat)
  case atStart => exact ⟨_, 0, rfl, Nat.zero_le _, rfl, RwRow.none (Blk.new _ _ _) (Nat.le_refl _), (Below.refl _ _).alloc (Nat.le_refl _) _⟩
  case round =>
    obtain ⟨ov, k, hov, hk, rfl, HR, HB⟩ := hrel
    subst hov
    have hsz : w.heap.size ≤ wr.heap.size := HB.out.size
    have HR2 : Hid (∀ o, (wr.alloc o).ownsRow w.heap.size 42 2 ov k (rawC (wrs F A k))) := fun o => by
      have := HR.out
      unfold RwRow at this
      rw [wrs_length] at this
      exact this.alloc o
    by_cases hlt : k < N
    · have hltI : (k : Int) < (N : Int) := by omega
      have hxl : (rawC (wrs F A k)).length = k * 2 := by rw [rawC_length, wrs_length]
      go_wp2_with (first
        | (go_at_call 40; refine (HM.out _).mono ?_; rintro e1 w1 ⟨rfl, rfl⟩)
        | (go_at_call 41; refine (HA.out _).mono ?_; rintro e2 w2 ⟨rfl, rfl⟩)
        | (go_at_call 29; refine (HP.out k (by omega) _).mono ?_; rintro e3 w3 ⟨rfl, rfl⟩)
        | (at_builtin; refine wpList_append_own_at _ rfl _ _ 22 rfl w.heap.size 42 iR (.agg zeroR) 2 24 Tryd.underlying22 hiR.out hzR hsR hbR rfl (by decide) ov k (rawC (wrs F A k)) rfl (HR2.out _) ⟨_, 0, none⟩ 1 1 [.int .i64 ((A : Int) + (k : Int)), .string (F k)] rfl (by simp) (cell_two_at rfl) (by simp [Value.oneCell']) (by unfold maxLen; omega) (by omega) (by simp; omega) ?_; intro v' w5 hown hgrow hnil hat; have HO := hide hown; have HG := hide hgrow; clear hown hgrow hnil hat))
      go_roundw
      case rel =>
        refine ⟨v', k + 1, rfl, by omega, by go_num, ?_, grown_keeps HR.out HB.out (Nat.le_refl _) HG.out⟩
        rw [wrs_succ]
        exact RwRow.snoc (wrs_length _ _ _).symm (by have := HO.out; rwa [← Int.natCast_add] at this)
      case measure => simp [intOf]; omega
    · have hkN : k = N := by omega
      subst hkN
      have hxl : (rawC (wrs F A k)).length = k * 2 := by rw [rawC_length, wrs_length]
      have HMod : Hid ((g : Int) % 2 = ((g % 2 : Nat) : Int)) := by show _ = _; omega
      have HRW : Hid (∀ W, Below wr.heap.size wr W → ∀ o, (W.alloc o).ownsRow w.heap.size 42 2 ov k (rawC (wrs F A k))) := fun W h o => by
        have := HR.out.keep h
        unfold RwRow at this
        rw [wrs_length] at this
        exact this.alloc o
      go_wp2_with (first
        | (go_at_call 40; refine (HM.out _).mono ?_; rintro e1 w1 ⟨rfl, rfl⟩)
        | (go_at_call 42; refine (HH.out _).mono ?_; rintro e2 w2 ⟨rfl, hB2⟩; have HB2 := hide hB2; clear hB2)
        | (at_builtin; refine wpList_append_own_at _ rfl _ _ 22 rfl w.heap.size 42 iR (.agg zeroR) 2 24 Tryd.underlying22 hiR.out hzR hsR hbR rfl (by decide) ov k (rawC (wrs F A k)) rfl (HRW.out _ HB2.out _) ⟨_, 0, none⟩ 1 1 [.int .i64 ((g : Int) % 2), .string H] rfl (by simp) (cell_two_at rfl) (by simp [Value.oneCell']) (by unfold maxLen; omega) (by omega) (by have := HB2.out.size; simp; omega) ?_; intro v' w5 hown hgrow hnil hat; have HO := hide hown; have HG := hide hgrow; clear hown hgrow hnil hat))
      go_ret
      refine ⟨_, rfl, ?_, grown_keeps (HR.out.keep HB2.out) (HB.out.trans (HB2.out.mono HB.out.size)) (Nat.le_refl _) HG.out⟩
      rw [HSv.out, ← HMod.out]
      exact RwRow.snoc (wrs_length _ _ _).symm HO.out

set_option maxHeartbeats 1000000 in
theorem specStoreNew_any (s : ByteArray) (w : World) (hs : s.size ≤ 1048576) :
    Calls Tryd.prog 6 #[.string s] w fun e w' => ∃ v, e = .returned (.tuple #[v, .bool (decide (s.size ≤ 5760))]) ∧ RwRow w' w.heap.size v (if s.size ≤ 5760 then savedV 1 s else []) ∧ Below w.heap.size w w' := by
  have HT := hide (fun W => l22TextOk_any s W hs)
  have HS := hide (fun W => l22Saved_any 1 s W (by decide) hs)
  by_cases h : s.size ≤ 5760
  · rw [decide_eq_true h] at HT ⊢
    rw [if_pos h]
    go_enter Tryd.func6, Tryd.ntmps6
    go_wp2_with (first
      | (go_at_call 20; refine (HT.out _).mono ?_; rintro e1 w1 ⟨rfl, rfl⟩)
      | (go_at_call 21; refine (HS.out _).mono ?_; rintro e2 w2 ⟨v, rfl, hR, hB⟩; have HR := hide hR; have HB := hide hB; clear hR hB))
    go_ret2
    exact ⟨_, rfl, HR.out, HB.out⟩
  · rw [decide_eq_false h] at HT ⊢
    rw [if_neg h]
    go_enter Tryd.func6, Tryd.ntmps6
    go_wp2_with (go_at_call 20; refine (HT.out _).mono ?_; rintro e1 w1 ⟨rfl, rfl⟩)
    go_ret2
    exact ⟨_, rfl, RwRow.none (Blk.new _ _ _) (Nat.le_refl _), (Below.refl _ _).alloc (Nat.le_refl _) _⟩

end Go.Proofs.YtofgadldopaniaaDoor
