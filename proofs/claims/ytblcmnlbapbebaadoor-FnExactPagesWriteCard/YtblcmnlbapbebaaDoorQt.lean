/- A region that draws its order, walked once, where what is called may make memory: whatever the worlds of a class have in common stands behind it. -/
import Derived.Deep.QuietTactic
import Derived.BigQuiet
import Derived.WalkKit
namespace Go.Proofs.YtblcmnlbapbebaaDoor
open Go.RowKit

/-- A world of a class. -/
structure Wd (S : World → Prop) where
  w : World
  h : S w

theorem wp_region_own {P : Program} {id : Nat} {Q : Exit → Act → World → Prop} {a : Act} {w : World} {l : List Oper} (S : World → Prop) (hm : P.follows .mixedOrders = true) (hB : Region.lexB .any l.toArray = true) (hS : S w.drew)
    (h : wpQuiet P l.toArray (fun w' => ∃ x : Wd S, w' = x.w) (fun a' => ∀ w', S w' → Q .normal a' w') l a) : (Code.region id l.toArray true).wp P Q a w := by
  refine wp_region_quiet (C := fun w' => ∃ x : Wd S, w' = x.w) hm hB ⟨⟨w.drew, hS⟩, rfl⟩ ?_
  have e : (fun a' => ∀ w', (∃ x : Wd S, w' = x.w) → Q .normal a' w') = fun a' => ∀ w', S w' → Q .normal a' w' := by
    funext a'
    apply propext
    constructor
    · intro h w' hw'
      exact h w' ⟨⟨w', hw'⟩, rfl⟩
    · rintro h w' ⟨x, rfl⟩
      exact h _ x.h
  rw [e]
  simpa using h

/-- A callee's contract in a world of the class. -/
theorem own_call {P : Program} {f : FuncId} {args : Array Value} {S : World → Prop} {v : Value} {w : World} (h : Calls P f args w fun e w' => e = .returned v ∧ S w') : Calls P f args w fun e w'' => e = .returned v ∧ ∃ x : Wd S, w'' = x.w :=
  h.mono fun _ w' ⟨h1, h2⟩ => ⟨h1, ⟨w', h2⟩, rfl⟩

end Go.Proofs.YtblcmnlbapbebaaDoor
