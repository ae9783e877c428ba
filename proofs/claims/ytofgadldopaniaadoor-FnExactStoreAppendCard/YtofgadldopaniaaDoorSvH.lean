/- The program's head of a group, and what it writes for one. -/
import Derived.Test.YtofgadldopaniaaDoorSvI
import Derived.Test.YtofgadldopaniaaDoorSvPg
import Derived.Test.YtofgadldopaniaaDoorSvC
import Derived.Test.YtofgadldopaniaaDoorSvJ
namespace Go.Proofs.YtofgadldopaniaaDoor
open Go.RowKit

set_option maxRecDepth 100000 in
set_option maxHeartbeats 4000000 in
theorem headHText_any (B g m n : Nat) (w : World) (hT : Tab B w) (hB : B ≤ w.heap.size) (hg : g ≤ 1048576) (hm : m ≤ 1048576) (hn : n ≤ 1048576) :
    Calls Tryd.prog 50 #[.agg #[.int .i64 (g : Int), .int .i64 (m : Int), .int .i64 (n : Int)]] w fun e w' => e = .returned (.string (headH g m n)) ∧ Below w.heap.size w w' := by
  have HP : Hid (headH g m n = ((((⟨#[72, 32]⟩ ++ dgs g) ++ ⟨#[32]⟩) ++ dgs m) ++ ⟨#[32]⟩) ++ dgs n) := rfl
  have HA : Hid (Below w.heap.size w (w.alloc (.cells #[.int .i64 (g : Int), .int .i64 (m : Int), .int .i64 (n : Int)] 66))) := (Below.refl _ _).alloc (Nat.le_refl _) _
  have hBk : Blk (w.alloc (.cells #[.int .i64 (g : Int), .int .i64 (m : Int), .int .i64 (n : Int)] 66)) w.heap.size #[.int .i64 (g : Int), .int .i64 (m : Int), .int .i64 (n : Int)] 66 := Blk.new _ _ _
  have hz : (w.alloc (.cells #[.int .i64 (g : Int), .int .i64 (m : Int), .int .i64 (n : Int)] 66)).heap.size = w.heap.size + 1 := by simp
  have HT := hide (fun W (h : Below w.heap.size w W) => hT.keep (h.mono hB))
  generalize hW : w.alloc (.cells #[.int .i64 (g : Int), .int .i64 (m : Int), .int .i64 (n : Int)] 66) = W0 at *
  have HI : Hid (∀ k : Nat, k ≤ 1048576 → ∀ W, Below (w.heap.size + 1) W0 W → Calls Tryd.prog 52 #[.int .i64 (k : Int)] W fun e w' => e = .returned (.string (dgs k)) ∧ Below (w.heap.size + 1) W0 w') := fun k hk W hW => (itoa_any k W B (HT.out W (HA.out.trans (hW.mono (by omega)))) hk).mono fun e w' ⟨h1, h2⟩ => ⟨h1, hW.trans (h2.mono (by have := hW.size; omega))⟩
  have HI1 := hide (HI.out g hg)
  have HI2 := hide (HI.out m hm)
  have HI3 := hide (HI.out n hn)
  have z1 := dgs_size g (by omega)
  have z2 := dgs_size m (by omega)
  have z3 := dgs_size n (by omega)
  generalize dgs g = d1 at *
  generalize dgs m = d2 at *
  generalize dgs n = d3 at *
  generalize headH g m n = h at *
  have HEnd : Hid (∀ W, Below (w.heap.size + 1) W0 W → Below w.heap.size w W) := fun W h => HA.out.trans (h.mono (by omega))
  have hx0 : ∀ x : Wd (Below (w.heap.size + 1) W0), x.w.cell? ⟨w.heap.size, 0, none⟩ = some (.int .i64 (g : Int)) := fun x => (hBk.below x.h (by omega)).cell 0 _ rfl
  have hx1 : ∀ x : Wd (Below (w.heap.size + 1) W0), x.w.cell? ⟨w.heap.size, 1, none⟩ = some (.int .i64 (m : Int)) := fun x => (hBk.below x.h (by omega)).cell 1 _ rfl
  have hx2 : ∀ x : Wd (Below (w.heap.size + 1) W0), x.w.cell? ⟨w.heap.size, 2, none⟩ = some (.int .i64 (n : Int)) := fun x => (hBk.below x.h (by omega)).cell 2 _ rfl
  have hne : Nonempty (Wd (Below (w.heap.size + 1) W0)) := ⟨⟨W0, Below.refl _ _⟩⟩
  have hRefl : Hid (Below (w.heap.size + 1) W0 W0.drew) := (Below.refl _ _).drew
  have e1 : (⟨#[72, 32]⟩ : ByteArray).size = 2 := rfl
  have e2 : (⟨#[32]⟩ : ByteArray).size = 1 := rfl
  have q1 : ¬ 9223372036854775807 < (⟨#[72, 32]⟩ : ByteArray).size + d1.size := by omega
  have q2 : ¬ 9223372036854775807 < ((⟨#[72, 32]⟩ : ByteArray) ++ d1).size + (⟨#[32]⟩ : ByteArray).size := by rw [ByteArray.size_append]; omega
  have q3 : ¬ 9223372036854775807 < (((⟨#[72, 32]⟩ : ByteArray) ++ d1) ++ ⟨#[32]⟩).size + d2.size := by rw [ByteArray.size_append, ByteArray.size_append]; omega
  have q4 : ¬ 9223372036854775807 < ((((⟨#[72, 32]⟩ : ByteArray) ++ d1) ++ ⟨#[32]⟩) ++ d2).size + (⟨#[32]⟩ : ByteArray).size := by rw [ByteArray.size_append, ByteArray.size_append, ByteArray.size_append]; omega
  have q5 : ¬ 9223372036854775807 < (((((⟨#[72, 32]⟩ : ByteArray) ++ d1) ++ ⟨#[32]⟩) ++ d2) ++ ⟨#[32]⟩).size + d3.size := by rw [ByteArray.size_append, ByteArray.size_append, ByteArray.size_append, ByteArray.size_append]; omega
  clear hBk hz hT HI e1 e2
  go_enter Tryd.func50, Tryd.ntmps50
  go_wp2_with fail
  try rw [hW]
  refine wp_region_own (Below (w.heap.size + 1) W0) (by kernel_rfl) (by kernel_rfl) hRefl.out ?_
  repeat (go_big_quiet_step ((first | (go_at_call 52; exact own_call (HI1.out _ (Wd.h _))) | (go_at_call 52; exact own_call (HI2.out _ (Wd.h _))) | (go_at_call 52; exact own_call (HI3.out _ (Wd.h _))))))
  refine wpQuiet_nil ?_
  intro w1 hB1
  have HB1 := hide hB1
  clear hB1 hx0 hx1 hx2
  go_wp2_with fail
  go_ret
  exact ⟨by rw [HP.out]; rfl, HEnd.out _ HB1.out⟩

end Go.Proofs.YtofgadldopaniaaDoor
