/- The laws' own comparison: of two lists, or trees, that are the same, eqStringS, eqTreeS, eqTree answer true. -/
import Derived.Test.YtifbbbgcdklaaaaProg
import Derived.Test.YtifbbbgcdklaaaaSz
import Derived.Deep.QuietTactic
import Derived.BigQuiet
import Derived.Deep.RegionWith
namespace Go.Proofs.Ytifbbbgcdklaaaa
open Go.RowKit

set_option maxHeartbeats 1000000 in
theorem eqStringS_any (l : List ByteArray) (v v' : Value) (w : World) (lo hi lo' hi' : Nat) (hv : StrsAt w lo hi v l) (hv' : StrsAt w lo' hi' v' l) (hhi : hi ≤ w.heap.size) (hhi' : hi' ≤ w.heap.size) :
    Calls Try.prog 28 #[v, v'] w fun e w' => e = .returned (.bool true) ∧ Below w.heap.size w w' := by
  obtain ⟨a, cap, rfl, hl, _, hc⟩ := hv
  obtain ⟨a', cap', rfl, _, _, hc'⟩ := hv'
  unfold maxLen at hl
  go_enter Try.func28, Try.ntmps28
  go_wp2
  go_loopw [5] (fun i wr => ∃ (k : Nat), k ≤ l.length ∧ i = .int .i64 k ∧ Hid (Below w.heap.size w wr)) (fun i _ => l.length - (intOf i).toNat)
  case atStart => exact ⟨0, Nat.zero_le _, rfl, Below.refl _ _⟩
  case round =>
    obtain ⟨k, hk, rfl, HB⟩ := hrel
    by_cases hlt : k < l.length
    · obtain ⟨b, o, rfl, hb1, hb2, hcell⟩ := hc (by omega)
      obtain ⟨b', o', rfl, hb1', hb2', hcell'⟩ := hc' (by omega)
      have hck := hcell k hlt
      have hck' := hcell' k hlt
      rw [← HB.out.cell (p := ⟨b, _, none⟩) (by show b < w.heap.size; omega)] at hck
      rw [← HB.out.cell (p := ⟨b', _, none⟩) (by show b' < w.heap.size; omega)] at hck'
      have hd : (k : Int) < (l.length : Int) := by omega
      clear hc hc' hcell hcell'
      go_wp2
      go_quiet (fail)
      go_wp2
      go_roundw
      case rel => exact ⟨k + 1, by omega, by go_num, below_drewN HB.out _⟩
      case measure => simp [intOf]; omega
    · go_wp2
      go_ret
      exact ⟨rfl, HB.out⟩

def EqTreeC (n : Nat) : Prop := ∀ (t : T n) (nv kv nv' kv' : Value) (w : World) (lo hi lo' hi' : Nat), Rep w lo hi n t nv kv → Rep w lo' hi' n t nv' kv' → hi ≤ w.heap.size → hi' ≤ w.heap.size →
  Calls Try.prog 11 #[aggT n t nv kv, aggT n t nv' kv'] w fun e w' => e = .returned (.bool true) ∧ Below w.heap.size w w'

set_option maxHeartbeats 2000000 in
theorem eqTreeS_any (n : Nat) (ih : EqTreeC n) (l : List (T n)) (v v' : Value) (w : World) (lo hi lo' hi' : Nat) (hv : KidsAt (Rep w lo hi n) (headT n) w lo hi v l) (hv' : KidsAt (Rep w lo' hi' n) (headT n) w lo' hi' v' l)
    (hhi : hi ≤ w.heap.size) (hhi' : hi' ≤ w.heap.size) :
    Calls Try.prog 29 #[v, v'] w fun e w' => e = .returned (.bool true) ∧ Below w.heap.size w w' := by
  obtain ⟨a, cap, rfl, hl, hc⟩ := hv
  obtain ⟨a', cap', rfl, _, hc'⟩ := hv'
  unfold maxLen at hl
  have HI : Hid (EqTreeC n) := ih
  clear ih
  go_enter Try.func29, Try.ntmps29
  go_wp2
  go_loopw [5] (fun i wr => ∃ (k : Nat), k ≤ l.length ∧ i = .int .i64 k ∧ Hid (Below w.heap.size w wr)) (fun i _ => l.length - (intOf i).toNat)
  case atStart => exact ⟨0, Nat.zero_le _, rfl, Below.refl _ _⟩
  case round =>
    obtain ⟨k, hk, rfl, HB⟩ := hrel
    by_cases hlt : k < l.length
    · obtain ⟨b, o, rfl, hb1, hb2, hcell⟩ := hc (by omega)
      obtain ⟨b', o', rfl, hb1', hb2', hcell'⟩ := hc' (by omega)
      obtain ⟨nv, kv, c0, c1, c2, c3, c4, hr⟩ := hcell k hlt
      obtain ⟨nv', kv', d0, d1, d2, d3, d4, hr'⟩ := hcell' k hlt
      have HR : Hid (Rep w lo hi n l[k] nv kv) := hr
      have HR' : Hid (Rep w lo' hi' n l[k] nv' kv') := hr'
      rw [← HB.out.cell (p := ⟨b, _, none⟩) (by show b < w.heap.size; omega)] at c0 c1 c2 c3 c4
      rw [← HB.out.cell (p := ⟨b', _, none⟩) (by show b' < w.heap.size; omega)] at d0 d1 d2 d3 d4
      have hd : (k : Int) < (l.length : Int) := by omega
      clear hc hc' hcell hcell' hr hr'
      have HC : Hid (∀ w1, Below w.heap.size w w1 → Calls Try.prog 11 #[.agg #[.bool (headT n l[k]).1, .int .i64 (headT n l[k]).2.1, .string (headT n l[k]).2.2, nv, kv], .agg #[.bool (headT n l[k]).1, .int .i64 (headT n l[k]).2.1, .string (headT n l[k]).2.2, nv', kv']] w1 fun e w' => e = .returned (.bool true) ∧ Below w.heap.size w w') := fun w1 h1 =>
        (HI.out l[k] nv kv nv' kv' w1 lo hi lo' hi' (Rep.keep h1 hhi n _ _ _ HR.out) (Rep.keep h1 hhi' n _ _ _ HR'.out) (Nat.le_trans hhi h1.size) (Nat.le_trans hhi' h1.size)).mono fun e w' ⟨h, h2⟩ => ⟨h, h1.trans (h2.mono h1.size)⟩
      go_wp2
      go_region_with (go_at_call 11; refine (HC.out _ (by first | exact HB.out.drew | exact HB.out)).mono ?_; rintro e w1 ⟨rfl, hB1⟩; have HB1 : Hid (Below w.heap.size w w1) := hB1; clear hB1)
      all_goals
        go_wp2
        go_roundw
        case rel => exact ⟨k + 1, by omega, by go_num, HB1⟩
        case measure => simp [intOf]; omega
    · go_wp2
      go_ret
      exact ⟨rfl, HB.out⟩

set_option maxHeartbeats 1000000 in
theorem eqTree_succ (n : Nat) (ih : EqTreeC n) : EqTreeC (n + 1) := by
  intro t nv kv nv' kv' w lo hi lo' hi' hrep hrep' hhi hhi'
  obtain ⟨hd, hm, hN, hK⟩ := hrep
  obtain ⟨_, _, hN', hK'⟩ := hrep'
  obtain ⟨dir, mode, data, names, kids⟩ := t
  have HN : Hid (StrsAt w lo hi nv names) := hN
  have HN' : Hid (StrsAt w lo' hi' nv' names) := hN'
  have HK : Hid (KidsAt (Rep w lo hi n) (headT n) w lo hi kv kids) := hK
  have HK' : Hid (KidsAt (Rep w lo' hi' n) (headT n) w lo' hi' kv' kids) := hK'
  show Calls Try.prog 11 #[.agg #[.bool dir, .int .i64 mode, .string data, nv, kv], .agg #[.bool dir, .int .i64 mode, .string data, nv', kv']] w _
  have HI : Hid (EqTreeC n) := ih
  clear ih hN hK hN' hK' hd hm
  have HA : Hid (∀ o1 o2, Below w.heap.size w ((w.alloc o1).alloc o2)) := fun o1 o2 => ((Below.refl _ _).alloc (Nat.le_refl _) o1).alloc (by simp) o2
  go_enter Try.func11, Try.ntmps11
  go_wp2_with fail
  generalize hW : (w.alloc (Obj.cells #[.bool dir, .int .i64 mode, .string data, nv, kv] 34)).alloc (Obj.cells #[.bool dir, .int .i64 mode, .string data, nv', kv'] 34) = W
  have HW : Hid (Below w.heap.size w W ∧ W.heap.size = w.heap.size + 2 ∧ Blk W w.heap.size #[.bool dir, .int .i64 mode, .string data, nv, kv] 34 ∧
      Blk W (w.heap.size + 1) #[.bool dir, .int .i64 mode, .string data, nv', kv'] 34) := by
    subst hW
    refine ⟨HA.out _ _, by simp, (Blk.new w _ _).alloc _, ?_⟩
    have := Blk.new (w.alloc (Obj.cells #[.bool dir, .int .i64 mode, .string data, nv, kv] 34)) #[.bool dir, .int .i64 mode, .string data, nv', kv'] 34
    simpa using this
  clear HA hW
  obtain ⟨hB0, hZ0, b0, b1⟩ := HW.out
  refine (eqStringS_any names nv nv' W lo hi lo' hi' (HN.out.keep hB0 hhi) (HN'.out.keep hB0 hhi') (by omega) (by omega)).mono ?_
  rintro e w1 ⟨rfl, hB1⟩
  have c4 : w1.cell? ⟨w.heap.size, 4, none⟩ = some kv := (b0.below hB1 (by omega)).cell 4 _ rfl
  have d4 : w1.cell? ⟨w.heap.size + 1, 4, none⟩ = some kv' := (b1.below hB1 (by omega)).cell 4 _ rfl
  have HB1 : Hid (Below w.heap.size w w1) := hB0.trans (hB1.mono (by omega))
  have hz : w.heap.size ≤ w1.heap.size := HB1.out.size
  clear hB0 hZ0 b0 b1 hB1 HW
  go_wp2_with fail
  refine (eqTreeS_any n HI.out kids kv kv' w1 lo hi lo' hi' (HK.out.keepB HB1.out hhi) (HK'.out.keepB HB1.out hhi') (by omega) (by omega)).mono ?_
  rintro e w2 ⟨rfl, hB2⟩
  have HB2 : Hid (Below w.heap.size w w2) := HB1.out.trans (hB2.mono hz)
  clear hB2
  go_wp2_with fail
  go_ret
  exact ⟨rfl, HB2.out⟩

theorem eqTree_any : ∀ n, EqTreeC n
  | 0 => fun t => Empty.elim (show Empty from t)
  | n + 1 => eqTree_succ n (eqTree_any n)

end Go.Proofs.Ytifbbbgcdklaaaa
