/- Entries: the program's line of an entry with a mode or data. -/
import Derived.Test.YtgbdhmaacfmimaaDoorLine
import Derived.Test.YtgbdhmaacfmimaaDoorPathT
import Derived.Test.YtgbdhmaacfmimaaDoorDataT
import Derived.Deep.RegionLaw
namespace Go.Proofs.YtgbdhmaacfmimaaDoor
open Go.RowKit

set_option maxRecDepth 100000 in
set_option maxHeartbeats 4000000 in
theorem entryLine_tf (p : List ByteArray) (wt : Int) (d : Bool) (m : Int) (x : ByteArray) (s : ByteArray) (fc : Int) (fd ok : Bool) (sp sm sx : ByteArray) (pa : Option Addr) (pc : Nat) (w : World)
    (hs : s.size ≤ 100) (hp : sp.size ≤ 100)
    (hf : ∀ o, Calls Tryd.prog 27 #[.agg #[.slice pa p.length pc, .int .i64 wt, .bool d, .int .i64 m, .string x]] (w.alloc o) fun e w' => e = .returned (formT s fc fd true false ok) ∧ Below (w.alloc o).heap.size (w.alloc o) w')
    (hP : ∀ W, Below w.heap.size w W → Calls Tryd.prog 31 #[.slice pa p.length pc] W fun e w' => e = .returned (.string sp) ∧ Below W.heap.size W w')
    (hm : sm.size ≤ 100) (hD : ∀ W, Calls Tryd.prog 32 #[.int .i64 m] W fun e w' => e = .returned (.string sm) ∧ Below W.heap.size W w') :
    Calls Tryd.prog 15 #[.agg #[.slice pa p.length pc, .int .i64 wt, .bool d, .int .i64 m, .string x]] w fun e w' => e = .returned (.string (lineP s true false sp sm sx)) ∧ Below w.heap.size w w' := by
  have k1 : ¬ 9223372036854775807 < s.size + 1 := by omega
  have k2 : ¬ 9223372036854775807 < s.size + 1 + sp.size := by omega
  have k3 : ¬ 9223372036854775807 < 1 + sm.size := by omega
  have k4 : ¬ 9223372036854775807 < s.size + 1 + sp.size + (1 + sm.size) := by omega
  go_enter Tryd.func15, Tryd.ntmps15
  go_wp2_with (first
    | (go_at_call 27; refine (hf _).mono ?_; rintro e w1 ⟨rfl, hB1⟩; have HL1 : Hid (LineW w (w1.alloc (.cells #[.string s, .int .i64 fc, .bool fd, .bool true, .bool false] 57)) w1.heap.size #[.slice pa p.length pc, .int .i64 wt, .bool d, .int .i64 m, .string x] #[.string s, .int .i64 fc, .bool fd, .bool true, .bool false]) := LineW.first hB1 _; have e0 : ∀ o, (w1.alloc o).cell? ⟨w.heap.size, 0, none⟩ = some (.slice pa p.length pc) := fun o => ent_later hB1 o 0; clear hB1))
  go_region_law (first
    | (rw [if_pos (by simp [Region.wanted])]; go_simp; go_at_call 31; refine (hP _ HL1.out.2.2.drew).mono ?_; rintro e w2 ⟨rfl, hb2⟩; have HL2 := hidB (HL1.out.keep (by first | exact hb2 | exact undrew hb2)); have g0 := HL2.out.2.1.cell 0 _ rfl; have g3 := HL2.out.2.1.cell 3 _ rfl; have g4 := HL2.out.2.1.cell 4 _ rfl; have h3 := HL2.out.1.cell 3 _ rfl; have h4 := HL2.out.1.cell 4 _ rfl; clear hb2)
    | (go_at_call 31; refine (hP _ HL1.out.2.2.drew).mono ?_; rintro e w2 ⟨rfl, hb2⟩; have HL2 := hidB (HL1.out.keep (by first | exact hb2 | exact undrew hb2)); have g0 := HL2.out.2.1.cell 0 _ rfl; have g3 := HL2.out.2.1.cell 3 _ rfl; have g4 := HL2.out.2.1.cell 4 _ rfl; have h3 := HL2.out.1.cell 3 _ rfl; have h4 := HL2.out.1.cell 4 _ rfl; clear hb2))
  all_goals
    go_wp2_with (first
      | (go_at_call 32; refine (hD _).mono ?_; rintro e w3 ⟨rfl, hb3⟩; have HL3 := hidB (HL2.out.keep hb3); have i4 := HL3.out.2.1.cell 4 _ rfl; have j4 := HL3.out.1.cell 4 _ rfl; clear hb3))
    go_ret
    exact ⟨rfl, HL3.out.2.2⟩

set_option maxRecDepth 100000 in
set_option maxHeartbeats 4000000 in
theorem entryLine_ft (p : List ByteArray) (wt : Int) (d : Bool) (m : Int) (x : ByteArray) (s : ByteArray) (fc : Int) (fd ok : Bool) (sp sm sx : ByteArray) (pa : Option Addr) (pc : Nat) (w : World)
    (hs : s.size ≤ 100) (hp : sp.size ≤ 100)
    (hf : ∀ o, Calls Tryd.prog 27 #[.agg #[.slice pa p.length pc, .int .i64 wt, .bool d, .int .i64 m, .string x]] (w.alloc o) fun e w' => e = .returned (formT s fc fd false true ok) ∧ Below (w.alloc o).heap.size (w.alloc o) w')
    (hP : ∀ W, Below w.heap.size w W → Calls Tryd.prog 31 #[.slice pa p.length pc] W fun e w' => e = .returned (.string sp) ∧ Below W.heap.size W w')
    (hx : sx.size ≤ 100) (hX : ∀ W, Calls Tryd.prog 33 #[.string x] W fun e w' => e = .returned (.string sx) ∧ Below W.heap.size W w') :
    Calls Tryd.prog 15 #[.agg #[.slice pa p.length pc, .int .i64 wt, .bool d, .int .i64 m, .string x]] w fun e w' => e = .returned (.string (lineP s false true sp sm sx)) ∧ Below w.heap.size w w' := by
  have k1 : ¬ 9223372036854775807 < s.size + 1 := by omega
  have k2 : ¬ 9223372036854775807 < s.size + 1 + sp.size := by omega
  have k5 : ¬ 9223372036854775807 < 1 + sx.size := by omega
  have k6 : ¬ 9223372036854775807 < s.size + 1 + sp.size + (1 + sx.size) := by omega
  go_enter Tryd.func15, Tryd.ntmps15
  go_wp2_with (first
    | (go_at_call 27; refine (hf _).mono ?_; rintro e w1 ⟨rfl, hB1⟩; have HL1 : Hid (LineW w (w1.alloc (.cells #[.string s, .int .i64 fc, .bool fd, .bool false, .bool true] 57)) w1.heap.size #[.slice pa p.length pc, .int .i64 wt, .bool d, .int .i64 m, .string x] #[.string s, .int .i64 fc, .bool fd, .bool false, .bool true]) := LineW.first hB1 _; have e0 : ∀ o, (w1.alloc o).cell? ⟨w.heap.size, 0, none⟩ = some (.slice pa p.length pc) := fun o => ent_later hB1 o 0; clear hB1))
  go_region_law (first
    | (rw [if_pos (by simp [Region.wanted])]; go_simp; go_at_call 31; refine (hP _ HL1.out.2.2.drew).mono ?_; rintro e w2 ⟨rfl, hb2⟩; have HL2 := hidB (HL1.out.keep (by first | exact hb2 | exact undrew hb2)); have g0 := HL2.out.2.1.cell 0 _ rfl; have g3 := HL2.out.2.1.cell 3 _ rfl; have g4 := HL2.out.2.1.cell 4 _ rfl; have h3 := HL2.out.1.cell 3 _ rfl; have h4 := HL2.out.1.cell 4 _ rfl; clear hb2)
    | (go_at_call 31; refine (hP _ HL1.out.2.2.drew).mono ?_; rintro e w2 ⟨rfl, hb2⟩; have HL2 := hidB (HL1.out.keep (by first | exact hb2 | exact undrew hb2)); have g0 := HL2.out.2.1.cell 0 _ rfl; have g3 := HL2.out.2.1.cell 3 _ rfl; have g4 := HL2.out.2.1.cell 4 _ rfl; have h3 := HL2.out.1.cell 3 _ rfl; have h4 := HL2.out.1.cell 4 _ rfl; clear hb2))
  all_goals
    go_wp2_with (first
      | (go_at_call 33; refine (hX _).mono ?_; rintro e w4 ⟨rfl, hb4⟩; have HL4 := hidB (HL2.out.keep hb4); clear hb4))
    go_ret
    exact ⟨rfl, HL4.out.2.2⟩

set_option maxRecDepth 100000 in
set_option maxHeartbeats 4000000 in
theorem entryLine_tt (p : List ByteArray) (wt : Int) (d : Bool) (m : Int) (x : ByteArray) (s : ByteArray) (fc : Int) (fd ok : Bool) (sp sm sx : ByteArray) (pa : Option Addr) (pc : Nat) (w : World)
    (hs : s.size ≤ 100) (hp : sp.size ≤ 100)
    (hf : ∀ o, Calls Tryd.prog 27 #[.agg #[.slice pa p.length pc, .int .i64 wt, .bool d, .int .i64 m, .string x]] (w.alloc o) fun e w' => e = .returned (formT s fc fd true true ok) ∧ Below (w.alloc o).heap.size (w.alloc o) w')
    (hP : ∀ W, Below w.heap.size w W → Calls Tryd.prog 31 #[.slice pa p.length pc] W fun e w' => e = .returned (.string sp) ∧ Below W.heap.size W w')
    (hm : sm.size ≤ 100) (hD : ∀ W, Calls Tryd.prog 32 #[.int .i64 m] W fun e w' => e = .returned (.string sm) ∧ Below W.heap.size W w')
    (hx : sx.size ≤ 100) (hX : ∀ W, Calls Tryd.prog 33 #[.string x] W fun e w' => e = .returned (.string sx) ∧ Below W.heap.size W w') :
    Calls Tryd.prog 15 #[.agg #[.slice pa p.length pc, .int .i64 wt, .bool d, .int .i64 m, .string x]] w fun e w' => e = .returned (.string (lineP s true true sp sm sx)) ∧ Below w.heap.size w w' := by
  have k1 : ¬ 9223372036854775807 < s.size + 1 := by omega
  have k2 : ¬ 9223372036854775807 < s.size + 1 + sp.size := by omega
  have k3 : ¬ 9223372036854775807 < 1 + sm.size := by omega
  have k4 : ¬ 9223372036854775807 < s.size + 1 + sp.size + (1 + sm.size) := by omega
  have k5 : ¬ 9223372036854775807 < 1 + sx.size := by omega
  have k6 : ¬ 9223372036854775807 < s.size + 1 + sp.size + (1 + sm.size) + (1 + sx.size) := by omega
  go_enter Tryd.func15, Tryd.ntmps15
  go_wp2_with (first
    | (go_at_call 27; refine (hf _).mono ?_; rintro e w1 ⟨rfl, hB1⟩; have HL1 : Hid (LineW w (w1.alloc (.cells #[.string s, .int .i64 fc, .bool fd, .bool true, .bool true] 57)) w1.heap.size #[.slice pa p.length pc, .int .i64 wt, .bool d, .int .i64 m, .string x] #[.string s, .int .i64 fc, .bool fd, .bool true, .bool true]) := LineW.first hB1 _; have e0 : ∀ o, (w1.alloc o).cell? ⟨w.heap.size, 0, none⟩ = some (.slice pa p.length pc) := fun o => ent_later hB1 o 0; clear hB1))
  go_region_law (first
    | (rw [if_pos (by simp [Region.wanted])]; go_simp; go_at_call 31; refine (hP _ HL1.out.2.2.drew).mono ?_; rintro e w2 ⟨rfl, hb2⟩; have HL2 := hidB (HL1.out.keep (by first | exact hb2 | exact undrew hb2)); have g0 := HL2.out.2.1.cell 0 _ rfl; have g3 := HL2.out.2.1.cell 3 _ rfl; have g4 := HL2.out.2.1.cell 4 _ rfl; have h3 := HL2.out.1.cell 3 _ rfl; have h4 := HL2.out.1.cell 4 _ rfl; clear hb2)
    | (go_at_call 31; refine (hP _ HL1.out.2.2.drew).mono ?_; rintro e w2 ⟨rfl, hb2⟩; have HL2 := hidB (HL1.out.keep (by first | exact hb2 | exact undrew hb2)); have g0 := HL2.out.2.1.cell 0 _ rfl; have g3 := HL2.out.2.1.cell 3 _ rfl; have g4 := HL2.out.2.1.cell 4 _ rfl; have h3 := HL2.out.1.cell 3 _ rfl; have h4 := HL2.out.1.cell 4 _ rfl; clear hb2))
  all_goals
    go_wp2_with (first
      | (go_at_call 32; refine (hD _).mono ?_; rintro e w3 ⟨rfl, hb3⟩; have HL3 := hidB (HL2.out.keep hb3); have i4 := HL3.out.2.1.cell 4 _ rfl; have j4 := HL3.out.1.cell 4 _ rfl; clear hb3)
      | (go_at_call 33; refine (hX _).mono ?_; rintro e w4 ⟨rfl, hb4⟩; have HL4 := hidB (HL3.out.keep hb4); clear hb4))
    go_ret
    exact ⟨rfl, HL4.out.2.2⟩

end Go.Proofs.YtgbdhmaacfmimaaDoor
