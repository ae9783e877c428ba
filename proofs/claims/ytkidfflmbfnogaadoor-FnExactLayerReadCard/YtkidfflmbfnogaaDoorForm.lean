/- The forms of entries: the program's table, and the look-up in it. -/
import Derived.Test.YtkidfflmbfnogaaDoorEntL
import Derived.Laws.Rows
import Derived.Deep.WholeRow
import Derived.Handy
namespace Go.Proofs.YtkidfflmbfnogaaDoor
open Go.RowKit

def FORMS : Array Value := #[.string ⟨#[103, 111, 110, 101]⟩, .int .i64 1, .bool false, .bool false, .bool false, .string ⟨#[110, 101, 119, 100, 105, 114]⟩, .int .i64 2, .bool true, .bool true, .bool false, .string ⟨#[110, 101, 119]⟩, .int .i64 2, .bool false, .bool true, .bool true, .string ⟨#[109, 111, 100, 101]⟩, .int .i64 3, .bool false, .bool true, .bool false, .string ⟨#[100, 97, 116, 97]⟩, .int .i64 4, .bool false, .bool false, .bool true]
/-- The package variable holds the program's table. -/
def FormsAt (w : World) : Prop := ∃ t fr, w.heap[0]? = some (.cells FORMS t fr)

theorem f_at0 (w : World) : (Instr.index 63 (.agg FORMS) (.int .i64 0)).run Tryd.prog w = .ok (.agg #[.string ⟨#[103, 111, 110, 101]⟩, .int .i64 1, .bool false, .bool false, .bool false]) w := by kernel_rfl
theorem f_at1 (w : World) : (Instr.index 63 (.agg FORMS) (.int .i64 1)).run Tryd.prog w = .ok (.agg #[.string ⟨#[110, 101, 119, 100, 105, 114]⟩, .int .i64 2, .bool true, .bool true, .bool false]) w := by kernel_rfl
theorem f_at2 (w : World) : (Instr.index 63 (.agg FORMS) (.int .i64 2)).run Tryd.prog w = .ok (.agg #[.string ⟨#[110, 101, 119]⟩, .int .i64 2, .bool false, .bool true, .bool true]) w := by kernel_rfl
theorem f_at3 (w : World) : (Instr.index 63 (.agg FORMS) (.int .i64 3)).run Tryd.prog w = .ok (.agg #[.string ⟨#[109, 111, 100, 101]⟩, .int .i64 3, .bool false, .bool true, .bool false]) w := by kernel_rfl
theorem f_at4 (w : World) : (Instr.index 63 (.agg FORMS) (.int .i64 4)).run Tryd.prog w = .ok (.agg #[.string ⟨#[100, 97, 116, 97]⟩, .int .i64 4, .bool false, .bool false, .bool true]) w := by kernel_rfl

/-- What the look-up answers: the word, what becomes, whether of a directory, whether there is a mode, whether there are data. -/
abbrev formT (s : ByteArray) (c : Int) (d m x ok : Bool) : Value := .tuple #[.agg #[.string s, .int .i64 c, .bool d, .bool m, .bool x], .bool ok]
def formV (wt : Int) (d : Bool) : Value :=
  if wt = 1 ∧ d = false then formT ⟨#[103, 111, 110, 101]⟩ 1 false false false true
  else if wt = 2 ∧ d = true then formT ⟨#[110, 101, 119, 100, 105, 114]⟩ 2 true true false true
  else if wt = 2 ∧ d = false then formT ⟨#[110, 101, 119]⟩ 2 false true true true
  else if wt = 3 ∧ d = false then formT ⟨#[109, 111, 100, 101]⟩ 3 false true false true
  else if wt = 4 ∧ d = false then formT ⟨#[100, 97, 116, 97]⟩ 4 false false true true
  else formT ⟨#[]⟩ 0 false false false false
/-- None of the first k forms is it. -/
def noF (k : Nat) (wt : Int) (d : Bool) : Prop := (0 < k → ¬ (wt = 1 ∧ d = false)) ∧ (1 < k → ¬ (wt = 2 ∧ d = true)) ∧ (2 < k → ¬ (wt = 2 ∧ d = false)) ∧ (3 < k → ¬ (wt = 3 ∧ d = false)) ∧ (4 < k → ¬ (wt = 4 ∧ d = false))
theorem noF_s0 {wt : Int} {d : Bool} (_h : noF 0 wt d) (hn : ¬ (wt = 1 ∧ d = false)) : noF 1 wt d := ⟨fun _ => hn, fun c => absurd c (by decide), fun c => absurd c (by decide), fun c => absurd c (by decide), fun c => absurd c (by decide)⟩
theorem noF_s1 {wt : Int} {d : Bool} (h : noF 1 wt d) (hn : ¬ (wt = 2 ∧ d = true)) : noF 2 wt d := ⟨fun _ => h.1 (by decide), fun _ => hn, fun c => absurd c (by decide), fun c => absurd c (by decide), fun c => absurd c (by decide)⟩
theorem noF_s2 {wt : Int} {d : Bool} (h : noF 2 wt d) (hn : ¬ (wt = 2 ∧ d = false)) : noF 3 wt d := ⟨fun _ => h.1 (by decide), fun _ => h.2.1 (by decide), fun _ => hn, fun c => absurd c (by decide), fun c => absurd c (by decide)⟩
theorem noF_s3 {wt : Int} {d : Bool} (h : noF 3 wt d) (hn : ¬ (wt = 3 ∧ d = false)) : noF 4 wt d := ⟨fun _ => h.1 (by decide), fun _ => h.2.1 (by decide), fun _ => h.2.2.1 (by decide), fun _ => hn, fun c => absurd c (by decide)⟩
theorem noF_s4 {wt : Int} {d : Bool} (h : noF 4 wt d) (hn : ¬ (wt = 4 ∧ d = false)) : noF 5 wt d := ⟨fun _ => h.1 (by decide), fun _ => h.2.1 (by decide), fun _ => h.2.2.1 (by decide), fun _ => h.2.2.2.1 (by decide), fun _ => hn⟩
theorem noF_zero (wt : Int) (d : Bool) : noF 0 wt d := by unfold noF; simp
theorem noF_all {wt : Int} {d : Bool} (h : noF 5 wt d) : formV wt d = formT ⟨#[]⟩ 0 false false false false := by
  obtain ⟨h0, h1, h2, h3, h4⟩ := h
  rw [formV, if_neg (h0 (by decide)), if_neg (h1 (by decide)), if_neg (h2 (by decide)), if_neg (h3 (by decide)), if_neg (h4 (by decide))]
abbrev entO (pa : Option Addr) (n pc : Nat) (wt : Int) (d : Bool) (m : Int) (x : ByteArray) : Obj := .cells #[.slice pa n pc, .int .i64 wt, .bool d, .int .i64 m, .string x] 31
abbrev resO : Obj := .cells #[.string ⟨#[]⟩, .int .i64 0, .bool false, .bool false, .bool false] 48
theorem form_keep {w wr : World} {E : Obj} (HE : wr.heap[w.heap.size]? = some E) (HR : wr.heap[w.heap.size + 1]? = some resO) (HB : Below w.heap.size w wr) (o : Obj) :
    Hid ((wr.alloc o).heap[w.heap.size]? = some E) ∧ Hid ((wr.alloc o).heap[w.heap.size + 1]? = some resO) ∧ Hid (Below w.heap.size w (wr.alloc o)) := by
  refine ⟨?_, ?_, HB.alloc HB.size o⟩
  · show _ = _
    rw [Lib.alloc_old _ _ _ (heap_lt HE)]; exact HE
  · show _ = _
    rw [Lib.alloc_old _ _ _ (heap_lt HR)]; exact HR

set_option maxRecDepth 100000 in
set_option maxHeartbeats 4000000 in
theorem formOf_any (pa : Option Addr) (n pc : Nat) (wt : Int) (d : Bool) (m : Int) (x : ByteArray) (w : World) (hF : FormsAt w) :
    Calls Tryd.prog 43 #[.agg #[.slice pa n pc, .int .i64 wt, .bool d, .int .i64 m, .string x]] w fun e w' => e = .returned (formV wt d) ∧ Below w.heap.size w w' := by
  obtain ⟨tt, fr, hF⟩ := hF
  have HG : ∀ o1 o2, ((w.alloc o1).alloc o2).heap[0]? = some (.cells FORMS tt fr) := by
    intro o1 o2
    have h0 := heap_lt hF
    rw [Lib.alloc_old _ o2 0 (by simp), Lib.alloc_old w o1 0 h0]
    exact hF
  clear hF
  go_enter Tryd.func43, Tryd.ntmps43
  go_wp2_with (refine wpList_load_row rfl 63 _ rfl 0 rfl tt _ fr _ (HG _ _) Tryd.underlying63 rfl (by kernel_rfl) ?_)
  clear HG
  go_loopw [7] (fun i wr => ∃ (k : Nat), k ≤ 5 ∧ i = .int .i64 k ∧ Hid (noF k wt d) ∧ Hid (wr.heap[w.heap.size]? = some (entO pa n pc wt d m x)) ∧ Hid (wr.heap[w.heap.size + 1]? = some resO) ∧ Hid (Below w.heap.size w wr)) (fun i _ => 5 - (intOf i).toNat)
  case atStart =>
    refine ⟨0, Nat.zero_le _, rfl, noF_zero _ _, ?_, ?_, ?_⟩
    · show _ = _
      rw [Lib.alloc_old _ _ _ (by simp)]
      exact heap_alloc_last w _
    · show _ = _
      have h := heap_alloc_last (w.alloc (entO pa n pc wt d m x)) resO
      simpa using h
    · exact ((Below.refl _ _).alloc (Nat.le_refl _) _).alloc (by simp) _
  case round =>
    obtain ⟨k, hk, rfl, HN, HE, HR, HB⟩ := hrel
    have HK : Hid (∀ o, Hid ((wr.alloc o).heap[w.heap.size]? = some (entO pa n pc wt d m x)) ∧ Hid ((wr.alloc o).heap[w.heap.size + 1]? = some resO) ∧ Hid (Below w.heap.size w (wr.alloc o))) := form_keep HE.out HR.out HB.out
    have c1 : ∀ o, (wr.alloc o).cell? ⟨w.heap.size, 1, none⟩ = some (.int .i64 wt) := fun o => by rw [Lib.cell_of_heap (HK.out o).1.out]; rfl
    have c2 : ∀ o, (wr.alloc o).cell? ⟨w.heap.size, 2, none⟩ = some (.bool d) := fun o => by rw [Lib.cell_of_heap (HK.out o).1.out]; rfl
    have r0 : ∀ o, (wr.alloc o).cell? ⟨w.heap.size + 1, 0, none⟩ = some (.string ⟨#[]⟩) := fun o => by rw [Lib.cell_of_heap (HK.out o).2.1.out]; rfl
    have r1 : ∀ o, (wr.alloc o).cell? ⟨w.heap.size + 1, 1, none⟩ = some (.int .i64 0) := fun o => by rw [Lib.cell_of_heap (HK.out o).2.1.out]; rfl
    have r2 : ∀ o, (wr.alloc o).cell? ⟨w.heap.size + 1, 2, none⟩ = some (.bool false) := fun o => by rw [Lib.cell_of_heap (HK.out o).2.1.out]; rfl
    have r3 : ∀ o, (wr.alloc o).cell? ⟨w.heap.size + 1, 3, none⟩ = some (.bool false) := fun o => by rw [Lib.cell_of_heap (HK.out o).2.1.out]; rfl
    have r4 : ∀ o, (wr.alloc o).cell? ⟨w.heap.size + 1, 4, none⟩ = some (.bool false) := fun o => by rw [Lib.cell_of_heap (HK.out o).2.1.out]; rfl
    have rf : ∀ o j, (wr.alloc o).frozen? ⟨w.heap.size + 1, j, none⟩ = false := fun o j => Lib.frozen_of_heap (HK.out o).2.1.out j
    have HS : Hid (∀ o v0 v1 v2 v3 v4, Below w.heap.size w (((((((wr.alloc o).setCell ⟨w.heap.size + 1, 0, none⟩ v0).setCell ⟨w.heap.size + 1, 1, none⟩ v1).setCell ⟨w.heap.size + 1, 2, none⟩ v2).setCell ⟨w.heap.size + 1, 3, none⟩ v3).setCell ⟨w.heap.size + 1, 4, none⟩ v4))) := fun o v0 v1 v2 v3 v4 =>
      (((((HK.out o).2.2.out.setCell (p := ⟨w.heap.size + 1, 0, none⟩) (Nat.le_succ _) v0).setCell (p := ⟨w.heap.size + 1, 1, none⟩) (Nat.le_succ _) v1).setCell (p := ⟨w.heap.size + 1, 2, none⟩) (Nat.le_succ _) v2).setCell (p := ⟨w.heap.size + 1, 3, none⟩) (Nat.le_succ _) v3).setCell (p := ⟨w.heap.size + 1, 4, none⟩) (Nat.le_succ _) v4
    clear HE
    obtain rfl | hk0 : k = 0 ∨ 0 < k := by omega
    · clear HR HB
      have hi := f_at0
      have HX : Hid ((¬ (wt = 1 ∧ d = false)) → noF 1 wt d) := noF_s0 HN.out
      by_cases h1 : (1 : Int) = wt
      · subst h1
        cases d with
        | false =>
          go_wp2_with fail
          (try simp only [Exit.inBlock, Exit.then]); refine bodyPost_ret (by simp [results, Tryd.results43, go_sem, r0, r1, r2, r3, r4]; try rfl) rfl ?_
          exact ⟨rfl, HS.out _ _ _ _ _ _⟩
        | true =>
          go_wp2_with fail
          go_roundw
          case rel => exact ⟨1, by omega, rfl, HX.out (by simp), HK.out _⟩
          case measure => simp [intOf]
      · have h2 : ((1 : Int) == wt) = false := by simpa using h1
        go_wp2_with fail
        go_roundw
        case rel => exact ⟨1, by omega, rfl, HX.out (fun c => h1 c.1.symm), HK.out _⟩
        case measure => simp [intOf]
    obtain rfl | hk1 : k = 1 ∨ 1 < k := by omega
    · clear HR HB
      have hi := f_at1
      have HX : Hid ((¬ (wt = 2 ∧ d = true)) → noF 2 wt d) := noF_s1 HN.out
      by_cases h1 : (2 : Int) = wt
      · subst h1
        cases d with
        | true =>
          go_wp2_with fail
          (try simp only [Exit.inBlock, Exit.then]); refine bodyPost_ret (by simp [results, Tryd.results43, go_sem, r0, r1, r2, r3, r4]; try rfl) rfl ?_
          exact ⟨rfl, HS.out _ _ _ _ _ _⟩
        | false =>
          go_wp2_with fail
          go_roundw
          case rel => exact ⟨2, by omega, rfl, HX.out (by simp), HK.out _⟩
          case measure => simp [intOf]
      · have h2 : ((2 : Int) == wt) = false := by simpa using h1
        go_wp2_with fail
        go_roundw
        case rel => exact ⟨2, by omega, rfl, HX.out (fun c => h1 c.1.symm), HK.out _⟩
        case measure => simp [intOf]
    obtain rfl | hk2 : k = 2 ∨ 2 < k := by omega
    · clear HR HB
      have hi := f_at2
      have HX : Hid ((¬ (wt = 2 ∧ d = false)) → noF 3 wt d) := noF_s2 HN.out
      by_cases h1 : (2 : Int) = wt
      · subst h1
        cases d with
        | false =>
          go_wp2_with fail
          (try simp only [Exit.inBlock, Exit.then]); refine bodyPost_ret (by simp [results, Tryd.results43, go_sem, r0, r1, r2, r3, r4]; try rfl) rfl ?_
          exact ⟨rfl, HS.out _ _ _ _ _ _⟩
        | true =>
          go_wp2_with fail
          go_roundw
          case rel => exact ⟨3, by omega, rfl, HX.out (by simp), HK.out _⟩
          case measure => simp [intOf]
      · have h2 : ((2 : Int) == wt) = false := by simpa using h1
        go_wp2_with fail
        go_roundw
        case rel => exact ⟨3, by omega, rfl, HX.out (fun c => h1 c.1.symm), HK.out _⟩
        case measure => simp [intOf]
    obtain rfl | hk3 : k = 3 ∨ 3 < k := by omega
    · clear HR HB
      have hi := f_at3
      have HX : Hid ((¬ (wt = 3 ∧ d = false)) → noF 4 wt d) := noF_s3 HN.out
      by_cases h1 : (3 : Int) = wt
      · subst h1
        cases d with
        | false =>
          go_wp2_with fail
          (try simp only [Exit.inBlock, Exit.then]); refine bodyPost_ret (by simp [results, Tryd.results43, go_sem, r0, r1, r2, r3, r4]; try rfl) rfl ?_
          exact ⟨rfl, HS.out _ _ _ _ _ _⟩
        | true =>
          go_wp2_with fail
          go_roundw
          case rel => exact ⟨4, by omega, rfl, HX.out (by simp), HK.out _⟩
          case measure => simp [intOf]
      · have h2 : ((3 : Int) == wt) = false := by simpa using h1
        go_wp2_with fail
        go_roundw
        case rel => exact ⟨4, by omega, rfl, HX.out (fun c => h1 c.1.symm), HK.out _⟩
        case measure => simp [intOf]
    obtain rfl | hk4 : k = 4 ∨ 4 < k := by omega
    · clear HR HB
      have hi := f_at4
      have HX : Hid ((¬ (wt = 4 ∧ d = false)) → noF 5 wt d) := noF_s4 HN.out
      by_cases h1 : (4 : Int) = wt
      · subst h1
        cases d with
        | false =>
          go_wp2_with fail
          (try simp only [Exit.inBlock, Exit.then]); refine bodyPost_ret (by simp [results, Tryd.results43, go_sem, r0, r1, r2, r3, r4]; try rfl) rfl ?_
          exact ⟨rfl, HS.out _ _ _ _ _ _⟩
        | true =>
          go_wp2_with fail
          go_roundw
          case rel => exact ⟨5, by omega, rfl, HX.out (by simp), HK.out _⟩
          case measure => simp [intOf]
      · have h2 : ((4 : Int) == wt) = false := by simpa using h1
        go_wp2_with fail
        go_roundw
        case rel => exact ⟨5, by omega, rfl, HX.out (fun c => h1 c.1.symm), HK.out _⟩
        case measure => simp [intOf]
    obtain rfl : k = 5 := by omega
    have HV : Hid (formV wt d = formT ⟨#[]⟩ 0 false false false false) := noF_all HN.out
    clear c1 c2 r0 r1 r2 r3 r4 rf HS HK HN
    have r0 : wr.cell? ⟨w.heap.size + 1, 0, none⟩ = some (.string ⟨#[]⟩) := by rw [Lib.cell_of_heap HR.out]; rfl
    have r1 : wr.cell? ⟨w.heap.size + 1, 1, none⟩ = some (.int .i64 0) := by rw [Lib.cell_of_heap HR.out]; rfl
    have r2 : wr.cell? ⟨w.heap.size + 1, 2, none⟩ = some (.bool false) := by rw [Lib.cell_of_heap HR.out]; rfl
    have r3 : wr.cell? ⟨w.heap.size + 1, 3, none⟩ = some (.bool false) := by rw [Lib.cell_of_heap HR.out]; rfl
    have r4 : wr.cell? ⟨w.heap.size + 1, 4, none⟩ = some (.bool false) := by rw [Lib.cell_of_heap HR.out]; rfl
    have rf : ∀ j, wr.frozen? ⟨w.heap.size + 1, j, none⟩ = false := fun j => Lib.frozen_of_heap HR.out j
    have HS : Hid (∀ v0 v1 v2 v3 v4, Below w.heap.size w (((((wr.setCell ⟨w.heap.size + 1, 0, none⟩ v0).setCell ⟨w.heap.size + 1, 1, none⟩ v1).setCell ⟨w.heap.size + 1, 2, none⟩ v2).setCell ⟨w.heap.size + 1, 3, none⟩ v3).setCell ⟨w.heap.size + 1, 4, none⟩ v4)) := fun v0 v1 v2 v3 v4 =>
      ((((HB.out.setCell (p := ⟨w.heap.size + 1, 0, none⟩) (Nat.le_succ _) v0).setCell (p := ⟨w.heap.size + 1, 1, none⟩) (Nat.le_succ _) v1).setCell (p := ⟨w.heap.size + 1, 2, none⟩) (Nat.le_succ _) v2).setCell (p := ⟨w.heap.size + 1, 3, none⟩) (Nat.le_succ _) v3).setCell (p := ⟨w.heap.size + 1, 4, none⟩) (Nat.le_succ _) v4
    clear HR
    go_wp2_with fail
    (try simp only [Exit.inBlock, Exit.then]); refine bodyPost_ret (by simp [results, Tryd.results43, go_sem, r0, r1, r2, r3, r4]; try rfl) rfl ?_
    exact ⟨by rw [HV.out], HS.out _ _ _ _ _⟩

end Go.Proofs.YtkidfflmbfnogaaDoor
