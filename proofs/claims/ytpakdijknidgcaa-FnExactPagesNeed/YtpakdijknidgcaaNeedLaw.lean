/- How many pages a text needs: both sides count the same; the law FnExactPagesNeed returns true. -/
import Derived.Test.YtpakdijknidgcaaProg
import Derived.WalkKit
import Derived.WalkSpells
import Derived.WalkLawsBesides
import Derived.Below
namespace Go.Proofs.Ytpakdijknidgcaa
open Go.RowKit

set_option maxHeartbeats 400000 in
theorem specNeed_any (s : ByteArray) (w : World) (hs : s.size ≤ 1048576) :
    Calls Try.prog 10 #[.string s] w fun e w' => e = .returned (.int .i64 (((s.size + 39) / 40 : Nat) : Int)) ∧ w' = w := by
  have h1 : ((s.size : Int) + 40 - 1).tdiv 40 = (((s.size + 39) / 40 : Nat) : Int) := by rw [Int.tdiv_eq_ediv_of_nonneg (by omega)]; omega
  go_enter Try.func10, Try.ntmps10
  go_wp2
  go_ret
  exact ⟨by simp <;> omega, rfl⟩

set_option maxHeartbeats 400000 in
theorem pagesFor_any (n : Nat) (w : World) (hs : n ≤ 1048576) :
    Calls Try.prog 20 #[.int .i64 n] w fun e w' => e = .returned (.int .i64 (((n + 39) / 40 : Nat) : Int)) ∧ w' = w := by
  go_enter Try.func20, Try.ntmps20
  go_wp2
  go_ret
  exact ⟨by simp <;> omega, rfl⟩

set_option maxHeartbeats 400000 in
theorem implNeed_any (s : ByteArray) (w : World) (hs : s.size ≤ 1048576) :
    Calls Try.prog 11 #[.string s] w fun e w' => e = .returned (.int .i64 (((s.size + 39) / 40 : Nat) : Int)) ∧ w' = w := by
  go_enter Try.func11, Try.ntmps11
  go_wp2_with (go_at_call 20; refine (pagesFor_any _ _ hs).mono ?_; rintro e w' ⟨rfl, rfl⟩)
  go_ret
  exact ⟨rfl, rfl⟩

set_option maxHeartbeats 400000 in
theorem needLaw_any (s : ByteArray) (w : World) (hl : s.size ≤ maxLen) :
    Calls Try.prog 4 #[.string s] w fun e w' => e = .returned (.bool true) ∧ Below w.heap.size w w' := by
  unfold maxLen at hl
  by_cases h : 1048576 < s.size
  · have hI : (1048576 : Int) < (s.size : Int) := by omega
    go_enter Try.func4, Try.ntmps4
    go_wp2
    go_ret
    exact ⟨rfl, Below.refl _ _⟩
  · have HS := fun W => specNeed_any s W (by omega)
    have HI := fun W => implNeed_any s W (by omega)
    have hI : ¬ (1048576 : Int) < (s.size : Int) := by omega
    generalize (((s.size + 39) / 40 : Nat) : Int) = q at HS HI
    have hq : (q != q) = false := by simp
    go_enter Try.func4, Try.ntmps4
    go_wp2_with (first
      | (go_at_call 10; refine (HS _).mono ?_; rintro e w' ⟨rfl, rfl⟩)
      | (go_at_call 11; refine (HI _).mono ?_; rintro e w' ⟨rfl, rfl⟩))
    go_ret
    exact ⟨rfl, Below.refl _ _⟩

end Go.Proofs.Ytpakdijknidgcaa
