/- The program's heads: their texts; where a checkpoint stands. -/
import Derived.Test.YtofgadldopaniaaDoorSvV
import Derived.Test.YtofgadldopaniaaDoorShelf
import Derived.Test.YtofgadldopaniaaDoorQt
import Derived.Lib.AppendIntMem
namespace Go.Proofs.YtofgadldopaniaaDoor
open Go.RowKit

/-- What the library's table reads as, here and wherever no block below B has turned. -/
def Tab (B : Nat) (w : World) : Prop := ∀ W, Below B w W → Lib.TabIs Tryd.prog W "internal/strconv.uint64pow10" .u64 Lib.pow10Tab
theorem Tab.keep {B : Nat} {w w' : World} (h : Tab B w) (hb : Below B w w') : Tab B w' := fun W hW => h W (hb.trans hW)
theorem itoa_any (n : Nat) (W : World) (B : Nat) (hT : Tab B W) (hn : n ≤ 1048576) : Calls Tryd.prog 52 #[.int .i64 (n : Int)] W fun e w' => e = .returned (.string (dgs n)) ∧ Below W.heap.size W w' :=
  (Tryd.strconv_Itoa n (by omega) (by omega) W (hT W (Below.refl _ _))).mono fun e w' ⟨h1, k, os, h2⟩ => ⟨by rw [h1, Go.Lib.itoa_nonneg]; rfl, by rw [h2]; exact Lib.below_grow _ _ (Nat.le_refl _) _ _⟩

set_option maxRecDepth 100000 in
set_option maxHeartbeats 2000000 in
theorem headCText_any (B g n : Nat) (w : World) (hT : Tab B w) (hB : B ≤ w.heap.size) (hg : g ≤ 1048576) (hn : n ≤ 1048576) :
    Calls Tryd.prog 44 #[.agg #[.int .i64 (g : Int), .int .i64 (n : Int)]] w fun e w' => e = .returned (.string (headC g n)) ∧ Below w.heap.size w w' := by
  have HP : Hid (headC g n = ((⟨#[67, 32]⟩ ++ dgs g) ++ ⟨#[32]⟩) ++ dgs n) := rfl
  have HA : Hid (Below w.heap.size w (w.alloc (.cells #[.int .i64 (g : Int), .int .i64 (n : Int)] 57))) := (Below.refl _ _).alloc (Nat.le_refl _) _
  have hBk : Blk (w.alloc (.cells #[.int .i64 (g : Int), .int .i64 (n : Int)] 57)) w.heap.size #[.int .i64 (g : Int), .int .i64 (n : Int)] 57 := Blk.new _ _ _
  have hz : (w.alloc (.cells #[.int .i64 (g : Int), .int .i64 (n : Int)] 57)).heap.size = w.heap.size + 1 := by simp
  have HT := hide (fun W (h : Below w.heap.size w W) => hT.keep (h.mono hB))
  generalize hW : w.alloc (.cells #[.int .i64 (g : Int), .int .i64 (n : Int)] 57) = W0 at *
  have HI1 : Hid (∀ W, Below (w.heap.size + 1) W0 W → Calls Tryd.prog 52 #[.int .i64 (g : Int)] W fun e w' => e = .returned (.string (dgs g)) ∧ Below (w.heap.size + 1) W0 w') := fun W hW => (itoa_any g W B (HT.out W (HA.out.trans (hW.mono (by omega)))) hg).mono fun e w' ⟨h1, h2⟩ => ⟨h1, hW.trans (h2.mono (by have := hW.size; omega))⟩
  have HI2 : Hid (∀ W, Below (w.heap.size + 1) W0 W → Calls Tryd.prog 52 #[.int .i64 (n : Int)] W fun e w' => e = .returned (.string (dgs n)) ∧ Below (w.heap.size + 1) W0 w') := fun W hW => (itoa_any n W B (HT.out W (HA.out.trans (hW.mono (by omega)))) hn).mono fun e w' ⟨h1, h2⟩ => ⟨h1, hW.trans (h2.mono (by have := hW.size; omega))⟩
  have z1 := dgs_size g (by omega)
  have z2 := dgs_size n (by omega)
  generalize dgs g = d1 at *
  generalize dgs n = d2 at *
  generalize headC g n = h at *
  have HEnd : Hid (∀ W, Below (w.heap.size + 1) W0 W → Below w.heap.size w W) := fun W h => HA.out.trans (h.mono (by omega))
  have hx0 : ∀ x : Wd (Below (w.heap.size + 1) W0), x.w.cell? ⟨w.heap.size, 0, none⟩ = some (.int .i64 (g : Int)) := fun x => (hBk.below x.h (by omega)).cell 0 _ rfl
  have hx1 : ∀ x : Wd (Below (w.heap.size + 1) W0), x.w.cell? ⟨w.heap.size, 1, none⟩ = some (.int .i64 (n : Int)) := fun x => (hBk.below x.h (by omega)).cell 1 _ rfl
  have hne : Nonempty (Wd (Below (w.heap.size + 1) W0)) := ⟨⟨W0, Below.refl _ _⟩⟩
  have hRefl : Hid (Below (w.heap.size + 1) W0 W0.drew) := (Below.refl _ _).drew
  have q1 : ¬ 9223372036854775807 < (⟨#[67, 32]⟩ : ByteArray).size + d1.size := by have e1 : (⟨#[67, 32]⟩ : ByteArray).size = 2 := rfl; omega
  have q2 : ¬ 9223372036854775807 < ((⟨#[67, 32]⟩ : ByteArray) ++ d1).size + (⟨#[32]⟩ : ByteArray).size := by
    have e1 : (⟨#[67, 32]⟩ : ByteArray).size = 2 := rfl
    have e2 : (⟨#[32]⟩ : ByteArray).size = 1 := rfl
    rw [ByteArray.size_append, e1, e2]; omega
  have q3 : ¬ 9223372036854775807 < (((⟨#[67, 32]⟩ : ByteArray) ++ d1) ++ ⟨#[32]⟩).size + d2.size := by
    have e1 : (⟨#[67, 32]⟩ : ByteArray).size = 2 := rfl
    have e2 : (⟨#[32]⟩ : ByteArray).size = 1 := rfl
    rw [ByteArray.size_append, ByteArray.size_append, e1, e2]; omega
  clear hBk hz hT
  go_enter Tryd.func44, Tryd.ntmps44
  go_wp2_with fail
  try rw [hW]
  refine wp_region_own (Below (w.heap.size + 1) W0) (by kernel_rfl) (by kernel_rfl) hRefl.out ?_
  repeat (go_big_quiet_step ((first | (go_at_call 52; exact own_call (HI1.out _ (Wd.h _))) | (go_at_call 52; exact own_call (HI2.out _ (Wd.h _))))))
  refine wpQuiet_nil ?_
  intro w1 hB1
  have HB1 := hide hB1
  clear hB1 hx0 hx1
  go_wp2_with fail
  go_ret
  exact ⟨by rw [HP.out]; rfl, HEnd.out _ HB1.out⟩

set_option maxHeartbeats 400000 in
theorem headBlock_any (g : Nat) (w : World) (hg : g ≤ 1048576) :
    Calls Tryd.prog 43 #[.int .i64 (g : Int)] w fun e w' => e = .returned (.int .i64 ((g % 2 : Nat) : Int)) ∧ w' = w := by
  have HQ : Hid ((g : Int) % 2 = ((g % 2 : Nat) : Int)) := by show _ = _; omega
  go_enter Tryd.func43, Tryd.ntmps43
  go_wp2
  go_ret
  exact ⟨by rw [← HQ.out]; rfl, rfl⟩

set_option maxHeartbeats 400000 in
theorem areaOf_any (g : Nat) (w : World) (hg : g ≤ 1048576) :
    Calls Tryd.prog 46 #[.int .i64 (g : Int)] w fun e w' => e = .returned (.int .i64 ((14 + g % 2 * 90 : Nat) : Int)) ∧ w' = w := by
  have HC := hide (fun W => headBlock_any g W hg)
  have hr : g % 2 ≤ 1 := by omega
  have HQ : Hid (14 + ((g % 2 : Nat) : Int) * 90 = ((14 + g % 2 * 90 : Nat) : Int)) := by show _ = _; omega
  generalize hv : ((14 + g % 2 * 90 : Nat) : Int) = v at *
  clear hv
  generalize g % 2 = r at *
  go_enter Tryd.func46, Tryd.ntmps46
  go_wp2_with (go_at_call 43; refine (HC.out _).mono ?_; rintro e1 w1 ⟨rfl, rfl⟩)
  go_ret
  exact ⟨by rw [← HQ.out]; rfl, rfl⟩

end Go.Proofs.YtofgadldopaniaaDoor
