/- Entries: the program's line of an entry. -/
import Derived.Test.YtgbdhmaacfmimaaDoorIsB
import Derived.Test.YtgbdhmaacfmimaaDoorPathT
import Derived.Test.YtgbdhmaacfmimaaDoorDataT
import Derived.Deep.RegionLaw
namespace Go.Proofs.YtgbdhmaacfmimaaDoor
open Go.RowKit

/-- The two boxes of the function, and what was below. -/
def LineW (w W : World) (b : Nat) (E F : Array Value) : Prop := Blk W w.heap.size E 34 ∧ Blk W b F 57 ∧ Below w.heap.size w W
theorem LineW.keep {w W W' : World} {b : Nat} {E F : Array Value} (h : LineW w W b E F) (hb : Below W.heap.size W W') : LineW w W' b E F :=
  ⟨h.1.below hb h.1.lt, h.2.1.below hb h.2.1.lt, h.2.2.trans (hb.mono h.2.2.size)⟩
theorem LineW.first {w w1 : World} {E : Array Value} (hB1 : Below (w.alloc (.cells E 34)).heap.size (w.alloc (.cells E 34)) w1) (F : Array Value) : LineW w (w1.alloc (.cells F 57)) w1.heap.size E F :=
  ⟨((Blk.new w E 34).below hB1 (by simp)).alloc _, Blk.new _ _ _, ent_below_alloc hB1 _⟩
def lineP (s : ByteArray) (fm fx : Bool) (sp sm sx : ByteArray) : ByteArray :=
  match fm, fx with
  | false, false => s ++ ⟨#[32]⟩ ++ sp
  | true, false => s ++ ⟨#[32]⟩ ++ sp ++ (⟨#[32]⟩ ++ sm)
  | false, true => s ++ ⟨#[32]⟩ ++ sp ++ (⟨#[32]⟩ ++ sx)
  | true, true => s ++ ⟨#[32]⟩ ++ sp ++ (⟨#[32]⟩ ++ sm) ++ (⟨#[32]⟩ ++ sx)

set_option maxRecDepth 100000 in
set_option maxHeartbeats 4000000 in
theorem entryLine_ff (p : List ByteArray) (wt : Int) (d : Bool) (m : Int) (x : ByteArray) (s : ByteArray) (fc : Int) (fd ok : Bool) (sp sm sx : ByteArray) (pa : Option Addr) (pc : Nat) (w : World)
    (hs : s.size ≤ 100) (hp : sp.size ≤ 100)
    (hf : ∀ o, Calls Tryd.prog 27 #[.agg #[.slice pa p.length pc, .int .i64 wt, .bool d, .int .i64 m, .string x]] (w.alloc o) fun e w' => e = .returned (formT s fc fd false false ok) ∧ Below (w.alloc o).heap.size (w.alloc o) w')
    (hP : ∀ W, Below w.heap.size w W → Calls Tryd.prog 31 #[.slice pa p.length pc] W fun e w' => e = .returned (.string sp) ∧ Below W.heap.size W w') :
    Calls Tryd.prog 15 #[.agg #[.slice pa p.length pc, .int .i64 wt, .bool d, .int .i64 m, .string x]] w fun e w' => e = .returned (.string (lineP s false false sp sm sx)) ∧ Below w.heap.size w w' := by
  have k1 : ¬ 9223372036854775807 < s.size + 1 := by omega
  have k2 : ¬ 9223372036854775807 < s.size + 1 + sp.size := by omega
  go_enter Tryd.func15, Tryd.ntmps15
  go_wp2_with (first
    | (go_at_call 27; refine (hf _).mono ?_; rintro e w1 ⟨rfl, hB1⟩; have HL1 : Hid (LineW w (w1.alloc (.cells #[.string s, .int .i64 fc, .bool fd, .bool false, .bool false] 57)) w1.heap.size #[.slice pa p.length pc, .int .i64 wt, .bool d, .int .i64 m, .string x] #[.string s, .int .i64 fc, .bool fd, .bool false, .bool false]) := LineW.first hB1 _; have e0 : ∀ o, (w1.alloc o).cell? ⟨w.heap.size, 0, none⟩ = some (.slice pa p.length pc) := fun o => ent_later hB1 o 0; clear hB1))
  go_region_law (first
    | (rw [if_pos (by simp [Region.wanted])]; go_simp; go_at_call 31; refine (hP _ HL1.out.2.2.drew).mono ?_; rintro e w2 ⟨rfl, hb2⟩; have HL2 := hidB (HL1.out.keep (by first | exact hb2 | exact undrew hb2)); have g0 := HL2.out.2.1.cell 0 _ rfl; have g3 := HL2.out.2.1.cell 3 _ rfl; have g4 := HL2.out.2.1.cell 4 _ rfl; clear hb2)
    | (go_at_call 31; refine (hP _ HL1.out.2.2.drew).mono ?_; rintro e w2 ⟨rfl, hb2⟩; have HL2 := hidB (HL1.out.keep (by first | exact hb2 | exact undrew hb2)); have g0 := HL2.out.2.1.cell 0 _ rfl; have g3 := HL2.out.2.1.cell 3 _ rfl; have g4 := HL2.out.2.1.cell 4 _ rfl; clear hb2))
  all_goals
    go_wp2_with fail
    go_ret
    exact ⟨rfl, HL2.out.2.2⟩

end Go.Proofs.YtgbdhmaacfmimaaDoor
