/- What the specification writes for a checkpoint, and its StoreNew. -/
import Derived.Test.YtofgadldopaniaaDoorSvV
namespace Go.Proofs.YtofgadldopaniaaDoor
open Go.RowKit

set_option maxHeartbeats 400000 in
theorem l22TextOk_any (s : ByteArray) (w : World) (hs : s.size ≤ 1048576) :
    Calls Tryd.prog 20 #[.string s] w fun e w' => e = .returned (.bool (decide (s.size ≤ 5760))) ∧ w' = w := by
  by_cases h : s.size ≤ 5760
  · rw [decide_eq_true h]
    have hq : decide ((s.size : Int) ≤ 5760) = true := by simp; omega
    go_enter Tryd.func20, Tryd.ntmps20
    go_wp2
    go_ret
    exact ⟨by first | rfl | rw [hq], rfl⟩
  · rw [decide_eq_false h]
    have hq : decide ((s.size : Int) ≤ 5760) = false := by simp; omega
    go_enter Tryd.func20, Tryd.ntmps20
    go_wp2
    go_ret
    exact ⟨by first | rfl | rw [hq], rfl⟩

set_option maxHeartbeats 400000 in
theorem l22Many64_any (s : ByteArray) (w : World) (hs : s.size ≤ 1048576) :
    Calls Tryd.prog 40 #[.string s, .int .i64 64] w fun e w' => e = .returned (.int .i64 (((s.size + 63) / 64 : Nat) : Int)) ∧ w' = w := by
  have HQ : Hid ((((s.size : Int) + 64 - 1) / 64) = (((s.size + 63) / 64 : Nat) : Int)) := by show _ = _; omega
  go_enter Tryd.func40, Tryd.ntmps40
  go_wp2
  go_ret
  exact ⟨by rw [← HQ.out]; rfl, rfl⟩
set_option maxHeartbeats 400000 in
theorem l22Many63_any (s : ByteArray) (w : World) (hs : s.size ≤ 1048576) :
    Calls Tryd.prog 40 #[.string s, .int .i64 63] w fun e w' => e = .returned (.int .i64 (((s.size + 62) / 63 : Nat) : Int)) ∧ w' = w := by
  have HQ : Hid ((((s.size : Int) + 63 - 1) / 63) = (((s.size + 62) / 63 : Nat) : Int)) := by show _ = _; omega
  go_enter Tryd.func40, Tryd.ntmps40
  go_wp2
  go_ret
  exact ⟨by rw [← HQ.out]; rfl, rfl⟩

set_option maxHeartbeats 400000 in
theorem l22Area_any (g : Nat) (w : World) (hg : g ≤ 1048576) :
    Calls Tryd.prog 41 #[.int .i64 (g : Int)] w fun e w' => e = .returned (.int .i64 ((14 + g % 2 * 90 : Nat) : Int)) ∧ w' = w := by
  have HQ : Hid (14 + (g : Int) % 2 * 90 = ((14 + g % 2 * 90 : Nat) : Int)) := by show _ = _; omega
  go_enter Tryd.func41, Tryd.ntmps41
  go_wp2
  go_ret
  exact ⟨by rw [← HQ.out]; rfl, rfl⟩

theorem extract_none (s : ByteArray) (i j : Nat) (h : s.size ≤ i) : s.extract i j = ⟨#[]⟩ := by
  apply ByteArray.ext
  rw [ByteArray.data_extract]
  exact Array.extract_empty_of_size_le_start h

theorem l22Piece_any (s : ByteArray) (i k : Nat) (w : World) (hs : s.size ≤ 1048576) (hk : k ≤ 64) (hi : i ≤ 1048576) :
    Calls Tryd.prog 29 #[.string s, .int .i64 (i : Int), .int .i64 (k : Int)] w fun e w' => e = .returned (.string (piece s k i)) ∧ w' = w := by
  have HP : Hid (piece s k i = s.extract (i * k) (min (i * k + k) s.size)) := rfl
  have hm1 : (i : Int) * (k : Int) = ((i * k : Nat) : Int) := by simp
  have hm2 : i * k ≤ 67108864 := Nat.le_trans (Nat.mul_le_mul hi hk) (by decide)
  generalize hn : i * k = n at *
  generalize piece s k i = p at *
  clear hn
  by_cases h1 : s.size ≤ n
  · have hp : p = ⟨#[]⟩ := by rw [HP.out]; exact extract_none s _ _ h1
    subst hp
    go_enter Tryd.func29, Tryd.ntmps29
    go_wp2
    go_ret
    exact ⟨rfl, rfl⟩
  · by_cases h2 : s.size < n + k
    · have hp : p = s.extract n s.size := by rw [HP.out]; congr 1; omega
      subst hp
      go_enter Tryd.func29, Tryd.ntmps29
      go_wp2
      go_ret
      exact ⟨rfl, rfl⟩
    · have hp : p = s.extract n (n + k) := by rw [HP.out]; congr 1; omega
      subst hp
      go_enter Tryd.func29, Tryd.ntmps29
      go_wp2
      go_ret
      exact ⟨rfl, rfl⟩

set_option maxHeartbeats 1000000 in
theorem l22Head_any (g : Nat) (s : ByteArray) (w : World) (hg : g ≤ 1048576) (hs : s.size ≤ 1048576) :
    Calls Tryd.prog 42 #[.int .i64 (g : Int), .string s] w fun e w' => e = .returned (.string (headC g s.size)) ∧ Below w.heap.size w w' := by
  have HP : Hid (headC g s.size = ((⟨#[67, 32]⟩ ++ dgs g) ++ ⟨#[32]⟩) ++ dgs s.size) := rfl
  have HC1 := hide (fun W => l22Dec_any g g W (Nat.le_refl _) (by omega))
  have HC2 := hide (fun W => l22Dec_any s.size s.size W (Nat.le_refl _) (by omega))
  have z1 := dgs_size g (by omega)
  have z2 := dgs_size s.size (by omega)
  generalize dgs g = d1 at *
  generalize dgs s.size = d2 at *
  generalize headC g s.size = h at *
  have e1 : (⟨#[67, 32]⟩ : ByteArray).size = 2 := rfl
  have e2 : (⟨#[32]⟩ : ByteArray).size = 1 := rfl
  go_enter Tryd.func42, Tryd.ntmps42
  go_wp2_with fail
  refine (HC1.out _).mono ?_
  rintro e w1 ⟨rfl, hB1⟩
  have HB1 := hide hB1
  clear hB1
  go_wp2_with fail
  refine (HC2.out _).mono ?_
  rintro e w2 ⟨rfl, hB2⟩
  have HB2 := hide (HB1.out.trans (hB2.mono HB1.out.size))
  clear hB2
  go_wp2_with fail
  go_ret
  exact ⟨by rw [HP.out]; rfl, HB2.out⟩

end Go.Proofs.YtofgadldopaniaaDoor
