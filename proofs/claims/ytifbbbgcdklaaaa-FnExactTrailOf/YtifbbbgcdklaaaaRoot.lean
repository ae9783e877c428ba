/- rootOf, and the program's TreeOk. -/
import Derived.Test.YtifbbbgcdklaaaaProg
import Derived.Test.YtifbbbgcdklaaaaDir
namespace Go.Proofs.Ytifbbbgcdklaaaa
open Go.RowKit

theorem okT_take (n : Nat) (t : T (n + 1)) : okT (n + 1) t = (t.dir && takeB (n + 1) t 0 30) := by
  show (t.dir && partsB (n + 1) t 0 && decide (countT (n + 1) t ≤ 30)) = (t.dir && (partsB (n + 1) t 0 && decide ((countT (n + 1) t : Int) ≤ 30)))
  rw [Bool.and_assoc]
  congr 2
  rw [Bool.eq_iff_iff]; simp; omega

set_option maxHeartbeats 2000000 in
theorem rootOf_any (n : Nat) (t : T n) (nv kv : Value) (w : World) (lo hi : Nat) (hrep : Rep w lo hi n t nv kv) (hhi : hi ≤ w.heap.size) :
    Calls Try.prog 24 #[aggT n t nv kv] w fun e w' => ∃ po, e = .returned (.tuple #[.pointer po, .bool (okT n t)]) ∧ Below w.heap.size w w' ∧ (okT n t = true → ∃ b, po = some ⟨b, 0, none⟩ ∧ DRepT w' w.heap.size w'.heap.size n t b) := by
  cases n with
  | zero => exact Empty.elim (show Empty from t)
  | succ n =>
  have HT : Hid (okT (n + 1) t = (t.dir && takeB (n + 1) t 0 30)) := okT_take n t
  have HA : Hid (∀ o1 o2, Below w.heap.size w ((w.alloc o1).alloc o2)) := fun o1 o2 => ((Below.refl _ _).alloc (Nat.le_refl _) o1).alloc (by simp) o2
  obtain ⟨dir, mode, data, names, kids⟩ := t
  show Calls Try.prog 24 #[.agg #[.bool dir, .int .i64 mode, .string data, nv, kv]] w _
  cases dir with
  | false =>
    have HO : Hid (okT (n + 1) ⟨false, mode, data, names, kids⟩ = false) := rfl
    generalize okT (n + 1) ⟨false, mode, data, names, kids⟩ = ok at HO HT ⊢
    clear hrep
    go_enter Try.func24, Try.ntmps24
    go_wp2_with fail
    go_ret2
    exact ⟨none, by rw [HO.out]; rfl, (Below.refl _ _).alloc (Nat.le_refl _) _, fun h => by rw [HO.out] at h; cases h⟩
  | true =>
    have HC : Hid (∀ (W : World), Below w.heap.size w W → Blk W (w.heap.size + 1) #[.int .i64 30] 69 → Calls Try.prog 38 #[.pointer (some ⟨w.heap.size + 1, 0, none⟩), .agg #[.bool true, .int .i64 mode, .string data, nv, kv], .int .i64 0] W fun e w' => ∃ po, e = .returned (.tuple #[.pointer po, .bool (okT (n + 1) ⟨true, mode, data, names, kids⟩)]) ∧ Below w.heap.size w w' ∧
        (okT (n + 1) ⟨true, mode, data, names, kids⟩ = true → ∃ b, po = some ⟨b, 0, none⟩ ∧ DRepT w' w.heap.size w'.heap.size (n + 1) ⟨true, mode, data, names, kids⟩ b)) := fun W hb hib => by
      have e0 : okT (n + 1) ⟨true, mode, data, names, kids⟩ = takeB (n + 1) ⟨true, mode, data, names, kids⟩ 0 30 := by rw [HT.out]; rfl
      rw [e0]
      refine ((dir_part (n + 1)).1 ⟨true, mode, data, names, kids⟩ rfl nv kv 0 30 (w.heap.size + 1) W lo hi (Rep.keep hb hhi _ _ _ _ hrep) (by omega) hib (by omega) (by omega) (by omega) (by omega)).mono ?_
      rintro e w' ⟨po, rfl, ha, hok⟩
      refine ⟨po, rfl, hb.trans (ha.toBelow (by omega) hb.size), fun h => ?_⟩
      obtain ⟨_, b, h1, h2⟩ := hok h
      exact ⟨b, h1, DRep.wide h2 (PRep.wide hb.size (Nat.le_refl _) n) hb.size (Nat.le_refl _)⟩
    clear hrep HT
    generalize okT (n + 1) ⟨true, mode, data, names, kids⟩ = ok at HC ⊢
    go_enter Try.func24, Try.ntmps24
    go_wp2_with fail
    refine (HC.out _ (HA.out _ _) ?q).mono ?_
    case q =>
      have := Blk.new (w.alloc (Obj.cells #[.bool true, .int .i64 mode, .string data, nv, kv] 34)) #[.int .i64 30] 69
      simpa using this
    rintro e w1 ⟨po, rfl, hb, hok⟩
    have HB := hide hb
    have HOK : Hid (ok = true → ∃ b, po = some ⟨b, 0, none⟩ ∧ DRepT w1 w.heap.size w1.heap.size (n + 1) ⟨true, mode, data, names, kids⟩ b) := hok
    clear hb hok
    go_wp2_with fail
    go_ret2
    exact ⟨po, rfl, HB.out, HOK.out⟩


end Go.Proofs.Ytifbbbgcdklaaaa
