/- readEntry: an entry out of the words of a line. -/
import Derived.Deep.RegionLaw
import Derived.Deep.RegionWith
import Derived.BigRegion
import Derived.Test.YtkidfflmbfnogaaDoorRdE
import Derived.Test.YtkidfflmbfnogaaDoorRdP
import Derived.Test.YtkidfflmbfnogaaDoorLw
import Derived.Test.YtkidfflmbfnogaaDoorIsB
namespace Go.Proofs.YtkidfflmbfnogaaDoor
open Go.RowKit

abbrev zeroE' : Array Value := #[.slice none 0 0, .int .i64 0, .bool false, .int .i64 0, .string ⟨#[]⟩]
/-- What readEntry gives. -/
def ReadEn (r : Option Ent) (w : World) (e : Ending) (w' : World) : Prop := match r with
  | some en => ∃ (pa : Option Addr) (pc : Nat), e = .returned (.tuple #[aggE en pa pc, .bool true]) ∧ w'.ownsRow w.heap.size 9 1 (.slice pa en.path.length pc) en.path.length (en.path.map .string)
  | none => ∃ (a : Option Addr) (n c : Nat) (wt : Int) (d : Bool) (m : Int) (x : ByteArray), e = .returned (.tuple #[.agg #[.slice a n c, .int .i64 wt, .bool d, .int .i64 m, .string x], .bool false])

theorem row_less {w : World} {b b' : Nat} {e : TypeId} {sz : Nat} {v : Value} {n : Nat} {xs : List Value} (h : w.ownsRow b e sz v n xs) (hb : b' ≤ b) : w.ownsRow b' e sz v n xs := by
  refine ⟨h.1, ?_⟩
  rcases h.2 with h1 | ⟨g, cap, cur, h1, h2, h3⟩
  · exact .inl h1
  · exact .inr ⟨g, cap, cur, h1, Nat.le_trans hb h2, h3⟩
theorem row_lt5 {w : World} {base : Nat} {e : TypeId} {sz : Nat} {v : Value} {n : Nat} {xs : List Value} (h : w.ownsRow base e sz v n xs) : ∀ k, v.ownBlock = some k → k < w.heap.size := fun k hk => by
  rcases h.2 with ⟨rfl, _⟩ | ⟨g, cap, cur, rfl, _, e3, _⟩
  · simp [Value.ownBlock] at hk
  · simp [Value.ownBlock] at hk; subst hk; exact (Array.getElem?_eq_some_iff.1 e3).1
abbrev set5 (w : World) (g o : Nat) (v0 v1 v2 v3 v4 : Value) : World := ((((w.setCell ⟨g, o, none⟩ v0).setCell ⟨g, o + 1, none⟩ v1).setCell ⟨g, o + 2, none⟩ v2).setCell ⟨g, o + 3, none⟩ v3).setCell ⟨g, o + 4, none⟩ v4
theorem set5_below {B : Nat} {w0 w : World} (h : Below B w0 w) {g : Nat} (hg : B ≤ g) (o : Nat) (v0 v1 v2 v3 v4 : Value) : Below B w0 (set5 w g o v0 v1 v2 v3 v4) :=
  ((((h.setCell (p := ⟨g, o, none⟩) hg v0).setCell (p := ⟨g, o + 1, none⟩) hg v1).setCell (p := ⟨g, o + 2, none⟩) hg v2).setCell (p := ⟨g, o + 3, none⟩) hg v3).setCell (p := ⟨g, o + 4, none⟩) hg v4
theorem set5_other (w : World) (g o : Nat) (v0 v1 v2 v3 v4 : Value) (k : Nat) (hk : k ≠ g) : (set5 w g o v0 v1 v2 v3 v4).heap[k]? = w.heap[k]? := by
  unfold set5
  rw [Below.heap_setCell _ _ _ _ hk, Below.heap_setCell _ _ _ _ hk, Below.heap_setCell _ _ _ _ hk, Below.heap_setCell _ _ _ _ hk, Below.heap_setCell _ _ _ _ hk]
theorem words_any (s : ByteArray) (c : Int) (d m x : Bool) (w : World) :
    Calls Tryd.prog 23 #[.agg #[.string s, .int .i64 c, .bool d, .bool m, .bool x]] w fun e w' => e = .returned (.int .i64 (2 + (if m then 1 else 0) + (if x then 1 else 0))) ∧ Below w.heap.size w w' := by
  cases m <;> cases x
  all_goals
    go_enter Tryd.func23, Tryd.ntmps23
    go_wp2
    go_ret
    exact ⟨rfl, (Below.refl _ _).alloc (Nat.le_refl _) _⟩

/-- readPath, its answer in one form. -/
theorem readPath_at (b : ByteArray) (w : World) (hs : b.size ≤ 1048576) : Calls Tryd.prog 24 #[.string b] w fun e w' => ∃ pa n pc, e = .returned (.tuple #[.slice pa n pc, .bool (pathR b).isSome]) ∧ Below w.heap.size w w' ∧ (∀ p, pathR b = some p → n = p.length ∧ w'.ownsRow w.heap.size 9 1 (.slice pa n pc) n (p.map .string)) := by
  refine (readPath_any b w hs).mono fun e w' ⟨h1, h2⟩ => ?_
  unfold ReadP at h2
  cases h : pathR b with
  | none => rw [h] at h2; exact ⟨none, 0, 0, h2, h1, fun p e => by cases e⟩
  | some p =>
    rw [h] at h2
    obtain ⟨a, cap, h3, h4⟩ := h2
    exact ⟨a, p.length, cap, h3, h1, fun q e => by cases e; exact ⟨rfl, h4⟩⟩
theorem path_sizes {b : ByteArray} {p : List ByteArray} (h : pathR b = some p) : ∀ (i : Nat) (h : i < p.length), p[i].size ≤ 1048576 := by
  have h1 := ((pathR_S b p).1 h).2
  unfold pathV at h1
  rw [Bool.and_eq_true] at h1
  intro i hi
  have := List.all_eq_true.1 h1.1 _ (List.getElem_mem hi)
  have h5 : p[i].size ≤ 5 := by
    unfold nameB at this
    simp only [Bool.and_eq_true, decide_eq_true_eq] at this
    omega
  omega

theorem wf_in {x : Int} (h0 : 0 ≤ x) (h1 : x ≤ 100) : (Lit.int .i64 x).wf = true := by
  simp [Lit.wf, IntKind.min, IntKind.max, IntKind.signed, IntKind.bits]
  omega
theorem mode_val {c : ByteArray} {mv : Int} (h : modeB c = true) (hv : (numV c).getD 0 = mv) : mv = modeS c ∧ 0 ≤ mv ∧ mv ≤ 7 := by
  have h1 := (mode_same c).2 h
  rw [h1] at hv
  have h0 : 0 ≤ modeS c := by
    have := (mode_same c).1
    rw [h] at this
    simpa using this.symm
  obtain ⟨d, _, h2⟩ := modeS_list h0
  have := d.isLt
  simp at hv
  exact ⟨hv.symm, by omega, by omega⟩
theorem data_val {f dv : ByteArray} (h : (dataV f).isSome = true) (hv : (dataV f).getD ⟨#[]⟩ = dv) : dataV f = some dv ∧ dv.size ≤ 1048576 := by
  cases hd : dataV f with
  | none => rw [hd] at h; cases h
  | some y =>
    rw [hd] at hv
    simp at hv
    subst hv
    refine ⟨rfl, ?_⟩
    unfold dataV at hd
    split at hd
    · rcases bytes_size hd with ⟨_, rfl⟩ | ⟨_, _, _, _, _, h2⟩
      · decide
      · omega
    · cases hd
theorem row_cap {w : World} {base : Nat} {e : TypeId} {sz : Nat} {pa : Option Addr} {n pc : Nat} {xs : List Value} (h : w.ownsRow base e sz (.slice pa n pc) n xs) : n ≤ pc ∧ pc ≤ maxLen := by
  rcases h.2 with ⟨e1, e2⟩ | ⟨g, cap, cur, e1, _, _, e4, e5, _⟩
  · simp only [Value.slice.injEq] at e1
    exact ⟨by omega, by omega⟩
  · simp only [Value.slice.injEq, true_and] at e1
    exact ⟨by omega, by omega⟩

end Go.Proofs.YtkidfflmbfnogaaDoor
