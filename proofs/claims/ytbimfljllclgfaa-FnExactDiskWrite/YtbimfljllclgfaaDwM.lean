/- Marks of disks; what the law of DiskWrite keeps in mind. -/
import Derived.Test.YtbimfljllclgfaaDwW
import Derived.Test.YtbimfljllclgfaaHeld
namespace Go.Proofs.Ytbimfljllclgfaa
open Go.RowKit

set_option maxHeartbeats 1000000 in
theorem markDisk_any (l : List ByteArray) (v : Value) (b : Nat) (w : World) (lo hi : Nat) (ho : OwnStrs w lo hi b v l) (hhi : hi ≤ w.heap.size) (hl : l.length ≤ 1048576) :
    Calls Try.prog 12 #[.agg #[v], .int .i64 1] w fun e w' => ∃ n : Nat, e = .returned (.int .i64 n) ∧ n = 1 + l.length ∧ OwnStrs w' lo hi b v (markL 1 l) ∧ InR lo hi w w' := by
  have HM : Hid (∀ o, Calls Try.prog 27 #[v, .int .i64 1] (w.alloc o) fun e w' => ∃ n : Nat, e = .returned (.int .i64 n) ∧ n = 1 + l.length ∧ OwnStrs w' lo hi b v (markL 1 l) ∧ InR lo hi w w') := fun o =>
    (markStringS_any l v b 1 (w.alloc o) lo hi (ho.same (sameIn_below ((Below.refl _ _).alloc (Nat.le_refl _) o) hhi)) (by simp; omega) (by omega) (by omega)).mono fun e w' ⟨h1, h2, h3, _⟩ =>
      ⟨1 + l.length, h1, rfl, h2, (InR.of_below ((Below.refl _ _).alloc (Nat.le_refl _) o)).trans h3⟩
  obtain ⟨⟨a, cap, rfl, _⟩, _⟩ := ho
  go_enter Try.func12, Try.ntmps12
  go_wp2_with fail
  refine (HM.out _).mono ?_
  rintro e w1 ⟨n, rfl, hn, hO, hI⟩
  have HF := hide (And.intro hn (And.intro hO hI))
  clear hn hO hI
  go_wp2_with fail
  go_ret
  exact ⟨n, rfl, HF.out.1, HF.out.2.1, HF.out.2.2⟩

set_option maxHeartbeats 1000000 in
theorem heldDisk_any (l : List ByteArray) (v : Value) (n : Nat) (hn : n = 1 + l.length) (w : World) (lo hi : Nat) (hv : StrsAt w lo hi v (markL 1 l)) (hhi : hi ≤ w.heap.size) (hl : l.length ≤ 1048576) :
    Calls Try.prog 14 #[.agg #[v], .int .i64 1] w fun e w' => e = .returned (.int .i64 n) ∧ Below w.heap.size w w' := by
  have HA : Hid (∀ o, Below w.heap.size w (w.alloc o)) := fun o => (Below.refl _ _).alloc (Nat.le_refl _) o
  have HM : Hid (∀ o, Calls Try.prog 29 #[v, .int .i64 1] (w.alloc o) fun e w' => e = .returned (.int .i64 n) ∧ Below w.heap.size w w') := fun o =>
    (heldStringS_any l v 1 (w.alloc o) lo hi (hv.keep (HA.out o) hhi) (Nat.le_trans hhi (HA.out o).size) (by omega) (by omega)).mono fun e w' ⟨h1, h2⟩ =>
      ⟨by rw [h1, hn], (HA.out o).trans (h2.mono (HA.out o).size)⟩
  obtain ⟨a, cap, rfl, _⟩ := hv
  clear hn
  have hn0 : ¬ ((n : Int) < 0) := by omega
  go_enter Try.func14, Try.ntmps14
  go_wp2_with fail
  refine (HM.out _).mono ?_
  rintro e w1 ⟨rfl, hB⟩
  have HB := hide hB
  clear hB
  go_wp2_with fail
  go_ret
  exact ⟨rfl, HB.out⟩

theorem diskV_le (l : List ByteArray) (rs : List Rw) (cut : Int) : (diskV l rs cut).length ≤ l.length := by
  unfold diskV
  split
  · rw [writeV_length]; omega
  · simp

/-- The boxes of the law, and what DiskWrite of the specification gave. -/
structure Led (w : World) (dv : Value) (V : List ByteArray) (a8 : Option Addr) (c8 lo8 hi8 b8 : Nat) (xv : Value) (lo9 hi9 b9 lo10 hi10 lo11 hi11 : Nat) (gv : Value) (b11 : Nat) (wi : World) : Prop where
  below : Below w.heap.size w wi
  q : Blk wi w.heap.size #[dv] 24
  box8 : Blk wi b8 #[.slice a8 V.length c8] 28
  s8 : StrsAt wi lo8 hi8 (.slice a8 V.length c8) V
  box9 : Blk wi b9 #[xv] 28
  box11 : Blk wi b11 #[gv] 28
  ord : w.heap.size < lo8 ∧ lo8 ≤ hi8 ∧ hi8 ≤ b8 ∧ b8 < lo9 ∧ lo9 ≤ hi9 ∧ hi9 ≤ b9 ∧ b9 < lo10 ∧ lo10 ≤ hi10 ∧ hi10 ≤ lo11 ∧ lo11 ≤ hi11 ∧ hi11 ≤ b11
theorem Led.size {w : World} {dv : Value} {V : List ByteArray} {a8 : Option Addr} {c8 lo8 hi8 b8 : Nat} {xv : Value} {lo9 hi9 b9 lo10 hi10 lo11 hi11 : Nat} {gv : Value} {b11 : Nat} {wi : World}
    (h : Led w dv V a8 c8 lo8 hi8 b8 xv lo9 hi9 b9 lo10 hi10 lo11 hi11 gv b11 wi) : b11 < wi.heap.size := h.box11.lt
theorem Led.step {w : World} {dv : Value} {V : List ByteArray} {a8 : Option Addr} {c8 lo8 hi8 b8 : Nat} {xv : Value} {lo9 hi9 b9 lo10 hi10 lo11 hi11 : Nat} {gv : Value} {b11 : Nat} {wi wj : World}
    (h : Led w dv V a8 c8 lo8 hi8 b8 xv lo9 hi9 b9 lo10 hi10 lo11 hi11 gv b11 wi) (hb : Below wi.heap.size wi wj) : Led w dv V a8 c8 lo8 hi8 b8 xv lo9 hi9 b9 lo10 hi10 lo11 hi11 gv b11 wj := by
  have h1 := h.size
  have h2 := h.ord
  exact ⟨h.below.trans (hb.mono h.below.size), h.q.below hb h.q.lt, h.box8.below hb h.box8.lt, h.s8.keep hb (by omega), h.box9.below hb h.box9.lt, h.box11.below hb h.box11.lt, h.ord⟩
theorem Led.inr {w : World} {dv : Value} {V : List ByteArray} {a8 : Option Addr} {c8 lo8 hi8 b8 : Nat} {xv : Value} {lo9 hi9 b9 lo10 hi10 lo11 hi11 : Nat} {gv : Value} {b11 : Nat} {wi wj : World} {lo hi : Nat}
    (h : Led w dv V a8 c8 lo8 hi8 b8 xv lo9 hi9 b9 lo10 hi10 lo11 hi11 gv b11 wi) (hb : InR lo hi wi wj) (hr : (lo = lo9 ∧ hi = hi9) ∨ (lo = lo10 ∧ hi = hi10) ∨ (lo = lo11 ∧ hi = hi11)) : Led w dv V a8 c8 lo8 hi8 b8 xv lo9 hi9 b9 lo10 hi10 lo11 hi11 gv b11 wj := by
  have h1 := h.size
  have h2 := h.ord
  have blk : ∀ (b : Nat) (A : Array Value) (t : TypeId), Blk wi b A t → ¬ (lo ≤ b ∧ b < hi) → Blk wj b A t := fun b A t hB hn => (hb.block b hB.lt hn).trans hB
  have h3 : w.heap.size ≤ lo := by omega
  have h4 := h.below.size
  exact ⟨h.below.trans (hb.toBelow h3 h4), blk _ _ _ h.q (by omega), blk _ _ _ h.box8 (by omega), h.s8.same (hb.sameIn (fun k g1 g2 => by omega) (by omega)), blk _ _ _ h.box9 (by omega), blk _ _ _ h.box11 (by omega), h.ord⟩

end Go.Proofs.Ytbimfljllclgfaa
