/- The laws' marks: markText gives a text of a number; markStringS lays such texts over a list of strings. -/
import Derived.Test.YtnahpghbodmdbaaDoorProg
import Derived.Test.YtnahpghbodmdbaaDoorLow
import Derived.Test.YtnahpghbodmdbaaDoorLeaf
import Derived.WalkKit
import Derived.WalkSpells
import Derived.WalkLawsBesides
import Derived.Test.YtnahpghbodmdbaaDoorProg
namespace Go.Proofs.YtnahpghbodmdbaaDoor
open Go.RowKit

def digs : Nat → Nat → ByteArray → ByteArray
  | 0, _, s => s
  | f + 1, n, s => if n = 0 then s else digs f (n / 10) (⟨#[48 + UInt8.ofNat (n % 10)]⟩ ++ s)
def mtext (k : Nat) : ByteArray := ⟨#[109]⟩ ++ digs k k ⟨#[]⟩

theorem digs_zero (f : Nat) (s : ByteArray) : digs f 0 s = s := by
  cases f with
  | zero => rfl
  | succ f => rw [digs, if_pos rfl]
theorem size_one (x : UInt8) (s : ByteArray) : ((⟨#[x]⟩ : ByteArray) ++ s).size = 1 + s.size := by
  rw [ByteArray.size_append]; rfl
theorem digs_size : ∀ (f n : Nat) (s : ByteArray), (digs f n s).size ≤ s.size + n
  | 0, _, _ => Nat.le_add_right _ _
  | f + 1, n, s => by
    rw [digs]
    split
    · exact Nat.le_add_right _ _
    · have := digs_size f (n / 10) (⟨#[48 + UInt8.ofNat (n % 10)]⟩ ++ s)
      rw [size_one] at this
      omega
theorem mtext_size (k : Nat) : (mtext k).size ≤ k + 1 := by
  rw [mtext, size_one]
  have := digs_size k k ⟨#[]⟩
  have e : (⟨#[]⟩ : ByteArray).size = 0 := rfl
  omega

theorem conv_one (W : World) (m : Int) : Sem.run Tryd.prog (convert 120 9 (.slice (some ⟨W.heap.size, 0, none⟩) 1 1)) (W.alloc (.cells #[.int .u8 m] 5)) = .ok (.string ⟨#[UInt8.ofNat m.toNat]⟩) (W.alloc (.cells #[.int .u8 m] 5)) := by
  rw [run_convert_bytes_arg _ 120 5 Tryd.underlying120 Tryd.underlying5 W.heap.size 0 1 1 [m] rfl (fun i hi => by
    have : i = 0 := by omega
    subst this
    exact (show Blk (W.alloc (.cells #[.int .u8 m] 5)) W.heap.size #[.int .u8 m] 5 from Blk.new W _ _).cell 0 _ rfl) 9 Tryd.underlying9]
  rfl

set_option maxHeartbeats 1000000 in
theorem markText_any (k : Nat) (w : World) (hk0 : 0 < k) (hk : k ≤ 1073741824) :
    Calls Tryd.prog 52 #[.int .i64 k] w fun e w' => e = .returned (.string (mtext k)) ∧ Below w.heap.size w w' := by
  have hk0I : (0 : Int) < (k : Int) := by omega
  have hk0N : ¬ ((k : Int) ≤ 0) := by omega
  generalize hres : mtext k = res
  have HRes := hide hres
  clear hres
  go_enter Tryd.func52, Tryd.ntmps52
  go_wp2_with fail
  go_loopw [0, 3] (fun x s wr => ∃ (f n : Nat) (b : ByteArray), x = .int .i64 n ∧ s = .string b ∧ n ≤ f ∧ n ≤ k ∧ b.size + n ≤ 1073741824 ∧ Hid (⟨#[109]⟩ ++ digs f n b = res) ∧ Hid (Below w.heap.size w wr)) (fun x _ _ => (intOf x).toNat)
  case atStart => exact ⟨k, k, ⟨#[]⟩, rfl, rfl, Nat.le_refl _, Nat.le_refl _, by show 0 + k ≤ _; omega, HRes, Below.refl _ _⟩
  case round =>
    obtain ⟨f, n, b, rfl, rfl, hf, hnk, hbs, HD, HB⟩ := hrel
    by_cases hn : 0 < n
    · have hnI : (0 : Int) < (n : Int) := by omega
      have hcv := conv_one wr (48 + (n : Int) % 10)
      go_wp2_with fail
      go_roundw
      case rel =>
        obtain ⟨f, rfl⟩ : ∃ f', f = f' + 1 := ⟨f - 1, by omega⟩
        refine ⟨f, n / 10, _, by go_num, rfl, by omega, by omega, ?_, ?_, HB.out.alloc HB.out.size _⟩
        · rw [size_one]; omega
        · have h := HD.out
          rw [digs, if_neg (by omega)] at h
          exact h
      case measure => simp [intOf]; omega
    · have hn0 : n = 0 := by omega
      subst hn0
      have HE : Hid (⟨#[109]⟩ ++ b = res) := by have h := HD.out; rw [digs_zero] at h; exact h
      go_wp2_with fail
      go_ret
      exact ⟨by rw [← HE.out]; rfl, HB.out⟩

end Go.Proofs.YtnahpghbodmdbaaDoor
