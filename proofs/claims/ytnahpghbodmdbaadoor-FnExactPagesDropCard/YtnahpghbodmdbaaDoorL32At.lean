/- spec.l32At: the place of a name. -/
import Derived.Test.YtnahpghbodmdbaaDoorPgSh
namespace Go.Proofs.YtnahpghbodmdbaaDoor
open Go.RowKit

set_option maxHeartbeats 1000000 in
theorem l32At_any (N : List Pn) (pv nv : Value) (s : ByteArray) (w : World) (lo hi : Nat) (hpv : ∃ a n c, pv = .slice a n c) (hn : RcsAt fPn w lo hi nv N) (hhi : hi ≤ w.heap.size) :
    Calls Tryd.prog 17 #[.agg #[pv, nv], .string s] w fun e w' => ((e = .returned (.int .i64 (-1)) ∧ ∀ (i : Nat) (h : i < N.length), N[i].name ≠ s) ∨ (∃ (i : Nat) (h : i < N.length), e = .returned (.int .i64 (i : Int)) ∧ N[i].name = s)) ∧ Below w.heap.size w w' := by
  obtain ⟨pa, pn, pc, rfl⟩ := hpv
  obtain ⟨a, cap, rfl, hl, hc⟩ := hn
  unfold maxLen at hl
  go_enter Tryd.func17, Tryd.ntmps17
  go_wp2
  go_loopw [5] (fun i wr => ∃ (k : Nat), k ≤ N.length ∧ i = .int .i64 k ∧ Hid (∀ (j : Nat) (h : j < N.length), j < k → N[j].name ≠ s) ∧ Hid (Below w.heap.size w wr ∧ Blk wr w.heap.size #[.slice pa pn pc, .slice a N.length cap] 32)) (fun i _ => N.length - (intOf i).toNat)
  case atStart => exact ⟨0, Nat.zero_le _, rfl, fun j _ h => by omega, (Below.refl _ _).alloc (Nat.le_refl _) _, Blk.new w _ _⟩
  case round =>
    obtain ⟨k, hk, rfl, HK, HB⟩ := hrel
    have x1 := HB.out.2.cell 1 _ rfl
    by_cases hlt : k < N.length
    · obtain ⟨b, o, rfl, _, hb2, hcell⟩ := hc (by omega)
      obtain ⟨c0, c1, c2⟩ := hcell k hlt
      rw [← HB.out.1.cell (p := ⟨b, _, none⟩) (by show b < w.heap.size; omega)] at c0 c1 c2
      simp only [fPn] at c0 c1 c2
      have hltI : (k : Int) < (N.length : Int) := by omega
      clear hc hcell
      by_cases he : N[k].name = s
      · have heq : (N[k].name.toList == s.toList) = true := by rw [he]; simp
        have HE := hide he
        clear he
        go_wp2_with fail
        go_ret
        exact ⟨.inr ⟨k, hlt, rfl, HE.out⟩, HB.out.1⟩
      · have heq : (N[k].name.toList == s.toList) = false := by rw [beq_eq_false_iff_ne]; exact fun h => he (toList_inj h)
        have HE := hide he
        clear he
        go_wp2_with fail
        go_roundw
        case rel =>
          refine ⟨k + 1, by omega, by go_num, fun j hj hjk => ?_, HB⟩
          by_cases e : j = k
          · subst e; exact HE.out
          · exact HK.out j hj (by omega)
        case measure => simp [intOf]; omega
    · clear hc
      go_wp2_with fail
      go_ret
      exact ⟨.inl ⟨rfl, fun j hj => HK.out j hj (by omega)⟩, HB.out.1⟩

end Go.Proofs.YtnahpghbodmdbaaDoor
