/- Entries: the specification writes one. -/
import Derived.Test.YtkidfflmbfnogaaDoorEntB
import Derived.Test.YtkidfflmbfnogaaDoorDec
namespace Go.Proofs.YtkidfflmbfnogaaDoor
open Go.RowKit

/-- An entry's line: of its path's text, its mode's and its data's. -/
def lineQ (wt : Int) (d : Bool) (sp sm sx : ByteArray) : ByteArray :=
  if wt = 1 then ⟨#[103, 111, 110, 101, 32]⟩ ++ sp ++ ⟨#[10]⟩
  else if wt = 2 then
    if d then ⟨#[110, 101, 119, 100, 105, 114, 32]⟩ ++ sp ++ ⟨#[32]⟩ ++ sm ++ ⟨#[10]⟩
    else ⟨#[110, 101, 119, 32]⟩ ++ sp ++ ⟨#[32]⟩ ++ sm ++ ⟨#[32]⟩ ++ sx ++ ⟨#[10]⟩
  else if wt = 3 then ⟨#[109, 111, 100, 101, 32]⟩ ++ sp ++ ⟨#[32]⟩ ++ sm ++ ⟨#[10]⟩
  else ⟨#[100, 97, 116, 97, 32]⟩ ++ sp ++ ⟨#[32]⟩ ++ sx ++ ⟨#[10]⟩

theorem undrew {B : Nat} {w w' : World} (h : Below B w.drew w') : Below B w w' := ⟨h.os, h.tape, h.output, h.size, h.block⟩

set_option maxRecDepth 100000 in
set_option maxHeartbeats 4000000 in
theorem l3Text_most (p : List ByteArray) (wt : Int) (d : Bool) (m : Int) (x : ByteArray) (sp sm sx : ByteArray) (pa : Option Addr) (pc : Nat) (w : World)
    (hn : wt = 2 → d = true) (hp : sp.size ≤ 100) (hm : sm.size ≤ 100) (hx : sx.size ≤ 100)
    (hN : ∀ o, Calls Tryd.prog 32 #[.slice pa p.length pc] (w.alloc o) fun e w' => e = .returned (.string sp) ∧ w' = w.alloc o)
    (hD : ∀ W, Calls Tryd.prog 33 #[.int .i64 m] W fun e w' => e = .returned (.string sm) ∧ Below W.heap.size W w')
    (hX : ∀ W, Calls Tryd.prog 34 #[.string x] W fun e w' => e = .returned (.string sx) ∧ Below W.heap.size W w') :
    Calls Tryd.prog 20 #[.agg #[.slice pa p.length pc, .int .i64 wt, .bool d, .int .i64 m, .string x]] w fun e w' => e = .returned (.string (lineQ wt d sp sm sx)) ∧ Below w.heap.size w w' := by
  have HA : Hid (∀ o, Below w.heap.size w (w.alloc o)) := fun o => (Below.refl _ _).alloc (Nat.le_refl _) o
  by_cases h1 : wt = 1
  · subst h1
    go_enter Tryd.func20, Tryd.ntmps20
    go_wp2_with (first | (go_at_call 32; refine (hN _).mono ?_; rintro e w' ⟨rfl, rfl⟩))
    go_ret
    exact ⟨rfl, HA.out _⟩
  have HW : ∀ (w1 : World), Below (w.alloc (.cells #[.slice pa p.length pc, .int .i64 wt, .bool d, .int .i64 m, .string x] 31)).heap.size (w.alloc (.cells #[.slice pa p.length pc, .int .i64 wt, .bool d, .int .i64 m, .string x] 31)) w1 → w1.cell? ⟨w.heap.size, 4, none⟩ = some (.string x) ∧ Hid (Below w.heap.size w w1) := by
    intro w1 hb
    refine ⟨?_, ?_⟩
    · exact ((Blk.new w #[.slice pa p.length pc, .int .i64 wt, .bool d, .int .i64 m, .string x] 31).below hb (by simp)).cell 4 _ rfl
    · exact (HA.out _).trans (hb.mono (by simp))
  by_cases h3 : wt = 3
  · subst h3
    go_enter Tryd.func20, Tryd.ntmps20
    go_wp2_with (first | (go_at_call 32; refine (hN _).mono ?_; rintro e w' ⟨rfl, rfl⟩) | (go_at_call 33; refine (hD _).mono ?_; rintro e w1 ⟨rfl, hb1⟩; obtain ⟨hc1, HB1⟩ := HW w1 hb1; clear hb1))
    go_ret
    exact ⟨rfl, HB1.out⟩
  by_cases h2 : wt = 2
  · subst h2
    obtain rfl := hn rfl
    go_enter Tryd.func20, Tryd.ntmps20
    go_wp2_with (first | (go_at_call 32; refine (hN _).mono ?_; rintro e w' ⟨rfl, rfl⟩) | (go_at_call 33; refine (hD _).mono ?_; rintro e w1 ⟨rfl, hb1⟩; obtain ⟨hc1, HB1⟩ := HW w1 hb1; clear hb1))
    go_ret
    exact ⟨rfl, HB1.out⟩
  have HL : Hid (lineQ wt d sp sm sx = ⟨#[100, 97, 116, 97, 32]⟩ ++ sp ++ ⟨#[32]⟩ ++ sx ++ ⟨#[10]⟩) := by show _ = _; rw [lineQ, if_neg h1, if_neg h2, if_neg h3]
  go_enter Tryd.func20, Tryd.ntmps20
  go_wp2_with (first | (go_at_call 32; refine (hN _).mono ?_; rintro e w' ⟨rfl, rfl⟩) | (go_at_call 34; refine (hX _).mono ?_; rintro e w2 ⟨rfl, hb2⟩; have HB2 : Hid (Below w.heap.size w w2) := (HW w2 hb2).2; clear hb2))
  go_ret
  exact ⟨by rw [HL.out]; rfl, HB2.out⟩

end Go.Proofs.YtkidfflmbfnogaaDoor
