/- A range over a function whose iterator makes memory that the body reads, and whose body keeps blocks of its own: the law and the contract. -/
import Derived.RangeFuncNested
import Derived.RangeFuncBound
import Derived.RangeFuncCalls
import Derived.RangeFuncLeaves
import Derived.Below
import Derived.Test.YtblcmnlbapbebaaDoorProg
namespace Go.Proofs.YtblcmnlbapbebaaDoor
open Go.RowKit

/-- All blocks of a set stand as they stood. -/
structure Kept (K : Nat → Prop) (A B : World) : Prop where
  os : B.os = A.os
  tape : B.tape = A.tape
  output : B.output = A.output
  size : A.heap.size ≤ B.heap.size
  block : ∀ k, k < A.heap.size → K k → B.heap[k]? = A.heap[k]?

theorem Kept.refl (K : Nat → Prop) (A : World) : Kept K A A := ⟨rfl, rfl, rfl, Nat.le_refl _, fun _ _ _ => rfl⟩
theorem Kept.trans {K : Nat → Prop} {A B C : World} (h : Kept K A B) (k : Kept K B C) : Kept K A C :=
  ⟨k.os.trans h.os, k.tape.trans h.tape, k.output.trans h.output, Nat.le_trans h.size k.size, fun i hi hK => (k.block i (Nat.lt_of_lt_of_le hi h.size) hK).trans (h.block i hi hK)⟩
theorem Kept.mono {K K' : Nat → Prop} {A B : World} (h : Kept K A B) (hk : ∀ k, k < A.heap.size → K' k → K k) : Kept K' A B :=
  ⟨h.os, h.tape, h.output, h.size, fun i hi hK => h.block i hi (hk i hi hK)⟩
theorem Kept.of_below {K : Nat → Prop} {A B : World} {n : Nat} (h : Below n A B) (hn : ∀ k, k < A.heap.size → K k → k < n) : Kept K A B :=
  ⟨h.os, h.tape, h.output, h.size, fun i hi hK => h.block i (hn i hi hK)⟩
theorem Kept.of_new {K : Nat → Prop} {A B : World} (h : Below A.heap.size A B) : Kept K A B := .of_below h (fun _ h _ => h)
theorem Kept.below {K : Nat → Prop} {A B : World} {n : Nat} (h : Kept K A B) (hn : ∀ k, k < n → k < A.heap.size ∧ K k) : Below n A B :=
  ⟨h.os, h.tape, h.output, h.size, fun k hk => h.block k (hn k hk).1 (hn k hk).2⟩
theorem Kept.putObj {K : Nat → Prop} (A : World) (l : Nat) (o : Obj) (hl : ¬ K l) : Kept K A (A.putObj l o) := by
  have g := grownBy_putObj' A l o
  exact ⟨g.os, g.tape, g.output, g.size, fun k _ hk => World.putObj_heap_other (fun e => hl (e ▸ hk))⟩
theorem Kept.cell {K : Nat → Prop} {A B : World} (h : Kept K A B) {p : Addr} (hp : p.block < A.heap.size) (hk : K p.block) : B.cell? p = A.cell? p :=
  World.cell?_of_block (h.block _ hp hk)

/-- How a round may be left: with the body's blocks, old ones or new ones. -/
def Left {α : Type} (I : List α → (Nat → Prop) → World → Prop) (C : Nat → Prop) (xs : List α) (W W' : World) : Prop :=
  ∃ C2 : Nat → Prop, I xs C2 W' ∧ Kept (fun k => ¬ C k) W W' ∧ (∀ k, C2 k → C k ∨ W.heap.size ≤ k) ∧ (∀ k, C2 k → k < W'.heap.size)

/-- The iterator's contract: what lay when it is called it does not turn, nor the body's blocks; the body turns its own blocks alone. -/
def SeqC {α : Type} (P : Program) (g : Nat) (lb : Array Value) (encs : α → Array Value) (D : Nat → Prop) (Hx : List α → α → (Nat → Prop) → World → Prop) (S Sp : List α → Prop) (w : World) : Prop :=
  ∀ (n l : Nat) (J Jx : List α → (Nat → Prop) → World → Prop) (C : Nat → Prop) (W : World), Below w.heap.size w W → (∀ k, D k → ¬ C k) → (∀ k, C k → k < W.heap.size) →
    (∀ s C1 A B, J s C1 A → Kept (fun k => k < W.heap.size ∨ C1 k) A B → J s C1 B) → (∀ s C1 A B, Jx s C1 A → Kept (fun k => k < W.heap.size ∨ C1 k) A B → Jx s C1 B) →
    (∀ pre x C1 W1, J pre C1 W1 → Hx pre x C1 W1 → (∀ k, C1 k → k < W1.heap.size) → YieldAt Fence.wide n P l (encs x) W1 fun e W' =>
      (e = .returned (.bool true) ∧ Left J C1 (pre ++ [x]) W1 W') ∨ (e = .returned (.bool false) ∧ Left Jx C1 (pre ++ [x]) W1 W')) →
    J [] C W →
    CallsIn Fence.wide n P g (#[.func (.yield l) #[] #[]] ++ lb) W fun e W' => (∃ v, e = .returned v) ∧
      ((∃ xs C2, S xs ∧ J xs C2 W') ∨ (∃ pre C2, Sp pre ∧ Jx pre C2 W'))

/-- How the body may be left. -/
def outPost {α : Type} (I : List α → (Nat → Prop) → World → Prop) (Ix : Code → List α → (Nat → Prop) → World → Prop) (C : Nat → Prop) (xs : List α) (W : World) : Exit → Act → World → Prop
  | .normal, _, W' => Left I C xs W W'
  | .ret, _, W' => Left (Ix .ret) C xs W W'
  | .exit id, _, W' => Left (Ix (.exit id)) C xs W W'
  | .goto t, _, W' => Left (Ix (.goto t)) C xs W W'
  | .panic _, _, _ => False
  | .outgrown, _, _ => False

theorem yield_any {m : Nat} (m' : Nat) {P : Program} {l : Nat} {args : Array Value} {W : World} {R : Ending → World → Prop} (h : YieldAt Fence.wide m P l args W R) : YieldAt Fence.wide m' P l args W R := by
  obtain ⟨fn, tmps, assign, body, hy, hR⟩ := h
  exact ⟨fn, tmps, assign, body, hy, hR.1, fun c cs _ => hR.2 c cs (room_wide _)⟩

theorem wide_room (k : Nat) : Fence.wide.depth.isSome = true → 1 ≤ k := fun h => by cases h

theorem Left.mono {α : Type} {I I' : List α → (Nat → Prop) → World → Prop} {C : Nat → Prop} {xs : List α} {W W' : World} (h : Left I C xs W W') (hi : ∀ C2, I xs C2 W' → I' xs C2 W') : Left I' C xs W W' := by
  obtain ⟨C2, h1, h2, h3, h4⟩ := h
  exact ⟨C2, hi C2 h1, h2, h3, h4⟩

/-- The body's blocks with the two of the loop's own. -/
def withTwo (C : Nat → Prop) (d : Nat) : Nat → Prop := fun k => C k ∨ k = d ∨ k = d + 1

theorem rf_law {α : Type} {P : Program} {n : Nat} {g : Operand} {ps : Array Tmp} {assign body : Code} {Q : Exit → Act → World → Prop} {a : Act} {w : World}
    {gf : Nat} {lb : Array Value} (hg : a.eval g = .func (.func gf) #[] lb) (eg : ∀ args w, (callFunc gf args).run P w = .ok (.enter gf args) w)
    {encs : α → Array Value} {D : Nat → Prop} {Hx : List α → α → (Nat → Prop) → World → Prop} {S Sp : List α → Prop} {w0 : World} (hseq : SeqC P gf lb encs D Hx S Sp w0)
    (hb0 : Below w0.heap.size w0 w) (hps : ∀ x, (encs x).size = ps.size)
    (hHm : ∀ pre x C C' W, Hx pre x C W → (∀ k, C' k → C k) → Hx pre x C' W) (hHs : ∀ pre x C A B, Hx pre x C A → Kept (fun k => ¬ C k) A B → Hx pre x C B)
    (C0 : Nat → Prop) (hD : ∀ k, D k → k < w.heap.size ∧ ¬ C0 k) (hC0 : ∀ k, C0 k → k < w.heap.size)
    (I : List α → (Nat → Prop) → World → Prop) (Ix : Code → List α → (Nat → Prop) → World → Prop)
    (hI : ∀ s C A B, I s C A → Kept (fun k => k < w.heap.size ∨ C k) A B → I s C B) (hIx : ∀ c s C A B, Ix c s C A → Kept (fun k => k < w.heap.size ∨ C k) A B → Ix c s C B)
    (h0 : I [] C0 w) (Ax : α → Act → World → Prop) (hAx : ∀ x a' A l r o, A.heap[l]? = some (.loop r) → Ax x a' A → Ax x a' (A.putObj l o))
    (hassign : ∀ (l : Nat) (pre : List α) (x : α) (C : Nat → Prop) (W : World) (K : Act → World → Prop), I pre C W → Hx pre x C W → (∀ a' W', Below W.heap.size W W' → Ax x a' W' → K a' W') →
      assign.wpIn (Fence.wide.inRound l) (n - 1) P (Exit.then K (fun _ _ _ => False)) { tmps := (ps.zip (encs x)).foldl (fun t (p, v) => t.setIfInBounds p v) a.tmps, defers := [] } W)
    (hbody : ∀ (l : Nat) (pre : List α) (x : α) (C : Nat → Prop) (a' : Act) (W : World), I pre C W → Hx pre x C W → (∀ k, C k → k < W.heap.size) → Ax x a' W → w.heap.size ≤ l → (∃ r, W.heap[l]? = some (.loop r)) → body.wpIn (Fence.wide.inRound l) (n - 1) P (outPost I Ix C (pre ++ [x]) W) a' W)
    (hdone : ∀ (d : Nat) (xs : List α) (C : Nat → Prop) (W : World), w.heap.size ≤ d → S xs → I xs C W → W.heap[d]? = some (.deferred (some [])) → Q .normal { a with defers := { target := .collected d, args := #[] } :: a.defers } W)
    (hstop : ∀ (d : Nat) (c : Code) (pre : List α) (C : Nat → Prop) (W : World), w.heap.size ≤ d → Sp pre → Ix c pre C W → W.heap[d]? = some (.deferred (some [])) → c.wpIn Fence.wide n P Q { a with defers := { target := .collected d, args := #[] } :: a.defers } W) :
    (Code.rangeFunc g ps assign body).wpIn Fence.wide n P Q a w := by
  refine wpIn_rangeFunc ?_
  intro fn hfn
  obtain ⟨d, hd⟩ : ∃ d, w.heap.size = d := ⟨_, rfl⟩
  obtain ⟨r0, hr0⟩ : ∃ r0 : Loop, ({ state := .ready, pending := none, fn, tmps := a.tmps, params := ps, assign, body, defers := w.heap.size } : Loop) = r0 := ⟨_, rfl⟩
  obtain ⟨V, hV⟩ : ∃ V, (w.alloc (.deferred (some []))).alloc (.loop r0) = V := ⟨_, rfl⟩
  have hVs : V.heap.size = d + 2 := by rw [← hV, World.size_alloc, World.size_alloc, hd]
  have hVl : V.heap[d + 1]? = some (.loop r0) := by
    rw [← hV, ← hd]; have := World.alloc_heap_new (w.alloc (.deferred (some []))) (.loop r0); rwa [World.size_alloc] at this
  have hVd : V.heap[d]? = some (.deferred (some [])) := by
    rw [← hV, ← hd]; exact (Below.heap_alloc _ _ _ (by simp)).trans (World.alloc_heap_new w _)
  have hbV : Below w.heap.size w V := by
    rw [← hV]; exact ((Below.refl _ w).alloc (Nat.le_refl _) _).alloc (by simp) _
  have p1 : r0.params = ps := by rw [← hr0]
  have p2 : r0.tmps = a.tmps := by rw [← hr0]
  have p3 : r0.assign = assign := by rw [← hr0]
  have p4 : r0.body = body := by rw [← hr0]
  have p5 : r0.fn = fn := by rw [← hr0]
  have p6 : r0.state = .ready := by rw [← hr0]
  have p7 : r0.pending = none := by rw [← hr0]
  refine ⟨d + 1, [{ target := .collected d, args := #[] }], V, { target := .fn (.func gf) lb, args := #[.func (.yield (d + 1)) #[] #[]] }, V, gf,
    #[.func (.yield (d + 1)) #[] #[]] ++ lb, V, ?_, ?_, ?_, ?_, wide_room _, ?_⟩
  · rw [← hV, ← hd, ← hr0]; exact run_enterLoop_outer _ _ _ _ _
  · simp only [resolve, hg]
    simp [go_sem]
  · intro f' _; trivial
  · simp [invoke, go_sem, eg]
  -- the iterator's contract, at the caller's invariant
  have stab : ∀ (Z : List α → (Nat → Prop) → World → Prop) (r : Loop → Prop), (∀ s C A B, Z s C A → Kept (fun k => k < w.heap.size ∨ C k) A B → Z s C B) →
      ∀ s C1 A B, (∃ C, C1 = withTwo C d ∧ (∀ k, C k → k ≠ d ∧ k ≠ d + 1) ∧ Z s C A ∧ (∃ q, r q ∧ A.heap[d + 1]? = some (.loop q)) ∧ A.heap[d]? = some (.deferred (some []))) → Kept (fun k => k < V.heap.size ∨ C1 k) A B →
      (∃ C, C1 = withTwo C d ∧ (∀ k, C k → k ≠ d ∧ k ≠ d + 1) ∧ Z s C B ∧ (∃ q, r q ∧ B.heap[d + 1]? = some (.loop q)) ∧ B.heap[d]? = some (.deferred (some []))) := by
    rintro Z r hZ s C1 A B ⟨C, rfl, hne, hz, ⟨q, hq, hl⟩, hdd⟩ hk
    refine ⟨C, rfl, hne, hZ s C A B hz (hk.mono fun k _ h => ?_), ⟨q, hq, ?_⟩, ?_⟩
    · rcases h with h | h
      · exact .inl (by omega)
      · exact .inr (.inl h)
    · exact (hk.block _ (Array.getElem?_eq_some_iff.1 hl).1 (.inl (by omega))).trans hl
    · exact (hk.block _ (Array.getElem?_eq_some_iff.1 hdd).1 (.inl (by omega))).trans hdd
  refine (hseq (n - 1) (d + 1)
    (fun s C1 A => ∃ C, C1 = withTwo C d ∧ (∀ k, C k → k ≠ d ∧ k ≠ d + 1) ∧ I s C A ∧ (∃ q, q = r0 ∧ A.heap[d + 1]? = some (.loop q)) ∧ A.heap[d]? = some (.deferred (some [])))
    (fun s C1 A => ∃ c C, C1 = withTwo C d ∧ (∀ k, C k → k ≠ d ∧ k ≠ d + 1) ∧ Ix c s C A ∧ (∃ q, q = { r0 with state := .done, pending := some c } ∧ A.heap[d + 1]? = some (.loop q)) ∧ A.heap[d]? = some (.deferred (some [])))
    (withTwo C0 d) V (hb0.trans (hbV.mono hb0.size)) ?_ ?_ (stab I (fun q => q = r0) hI) ?_ ?_ ⟨C0, rfl, fun k hk => by have := hC0 k hk; omega, hI _ _ _ _ h0 (Kept.of_new hbV), ⟨_, rfl, hVl⟩, hVd⟩).mono ?_
  · rintro k hk (h | h)
    · exact (hD k hk).2 h
    · have := (hD k hk).1; omega
  · rintro k (h | h)
    · have := hC0 k h; omega
    · omega
  · rintro s C1 A B ⟨c, h⟩ hk
    exact ⟨c, stab (Ix c) _ (hIx c) s C1 A B h hk⟩
  · -- one round
    rintro pre x C1 W1 ⟨C, rfl, hne, hi, ⟨q, rfl, hl⟩, hdd⟩ hx hCW
    have hlt : d + 1 < W1.heap.size := (Array.getElem?_eq_some_iff.1 hl).1
    have hy := run_yield (P := P) (args := encs x) hl (by rw [p1]; exact hps x)
    rw [p1, p2, p3, p4, p5] at hy
    refine ⟨fn, _, assign, body, hy, roundIn_of_wpIn hfn (hassign _ pre x C W1 _ hi (hHm _ _ _ _ _ hx (fun k h => .inl h)) ?_)⟩
    intro a' W2 hb2 ha2
    have hl2 : W2.heap[d + 1]? = some (.loop q) := (hb2.block _ hlt).trans hl
    have hd2 : W2.heap[d]? = some (.deferred (some [])) := (hb2.block _ (by omega)).trans hdd
    have hlt2 : d + 1 < W2.heap.size := (Array.getElem?_eq_some_iff.1 hl2).1
    obtain ⟨o3, ho3⟩ : ∃ o3 : Loop, { q with state := .busy } = o3 := ⟨_, rfl⟩
    obtain ⟨W3, hW3⟩ : ∃ W3, W2.putObj (d + 1) (.loop o3) = W3 := ⟨_, rfl⟩
    have hk3 : ∀ K : Nat → Prop, ¬ K (d + 1) → Kept K W2 W3 := fun K h => by rw [← hW3]; exact Kept.putObj _ _ _ h
    have hl3 : W3.heap[d + 1]? = some (.loop o3) := by rw [← hW3]; exact World.putObj_heap_same hlt2
    have hd3 : W3.heap[d]? = some (.deferred (some [])) := by rw [← hW3]; exact (World.putObj_heap_other (by omega)).trans hd2
    have hs3 : W3.heap.size = W2.heap.size := by
      apply Nat.le_antisymm
      · rw [← hW3]; simp [World.putObj]
      · exact (hk3 (fun _ => False) (fun h => h)).size
    have hi3 : I pre C W3 := by
      refine hI _ _ _ _ (hI _ _ _ _ hi (Kept.of_new hb2)) (hk3 _ ?_)
      rintro (h | h)
      · omega
      · exact (hne _ h).2 rfl
    have hx3 : Hx pre x C W3 := hHm _ _ _ _ _ (hHs _ _ _ _ _ (hHs _ _ _ _ _ hx (Kept.of_new hb2)) (hk3 _ (fun h => h (.inr (.inr rfl))))) (fun k h => .inl h)
    have hC3 : ∀ k, C k → k < W3.heap.size := fun k h => by have := hCW k (.inl h); have := hb2.size; omega
    have ha3 : Ax x a' W3 := by rw [← hW3]; exact hAx _ _ _ _ _ _ hl2 ha2
    refine ⟨W3, by rw [run_beginRound hl2 p6, ho3, hW3], ?_⟩
    refine wpIn_mono (hbody (d + 1) pre x C a' W3 hi3 hx3 hC3 ha3 (by omega) ⟨_, hl3⟩) ?_
    have fin : ∀ (Z : List α → (Nat → Prop) → World → Prop) (jump : Option Code) (W4 : World), (∀ s C A B, Z s C A → Kept (fun k => k < w.heap.size ∨ C k) A B → Z s C B) → Left Z C (pre ++ [x]) W3 W4 →
        ∃ W5, (Instr.endRound (d + 1) jump).run P W4 = .ok (.bool jump.isNone) W5 ∧
          ∃ C2, (∀ k, C2 k → k ≠ d ∧ k ≠ d + 1) ∧ Z (pre ++ [x]) C2 W5 ∧ W5.heap[d + 1]? = some (.loop { q with state := if jump.isNone then .ready else .done, pending := jump }) ∧ W5.heap[d]? = some (.deferred (some [])) ∧
            Kept (fun k => ¬ withTwo C d k) W1 W5 ∧ (∀ k, withTwo C2 d k → withTwo C d k ∨ W1.heap.size ≤ k) ∧ (∀ k, withTwo C2 d k → k < W5.heap.size) := by
      rintro Z jump W4 hZ ⟨C2, hz, hk4, hC2, hC4⟩
      have hl4 : W4.heap[d + 1]? = some (.loop o3) := (hk4.block _ (by omega) (fun h => (hne _ h).2 rfl)).trans hl3
      have hd4 : W4.heap[d]? = some (.deferred (some [])) := (hk4.block _ (by omega) (fun h => (hne _ h).1 rfl)).trans hd3
      have hlt4 : d + 1 < W4.heap.size := (Array.getElem?_eq_some_iff.1 hl4).1
      have hne2 : ∀ k, C2 k → k ≠ d ∧ k ≠ d + 1 := fun k h => by
        rcases hC2 k h with h | h
        · exact hne k h
        · omega
      have hr := run_endRound (P := P) jump hl4
      rw [← ho3] at hr
      refine ⟨_, hr, C2, hne2, ?_, World.putObj_heap_same hlt4, (World.putObj_heap_other (by omega)).trans hd4, ?_, ?_, ?_⟩
      · refine hZ _ _ _ _ hz (Kept.putObj _ _ _ ?_)
        rintro (h | h)
        · omega
        · exact (hne2 _ h).2 rfl
      · refine (((Kept.of_new hb2).trans (hk3 _ (fun h => h (.inr (.inr rfl))))).trans (hk4.mono fun k _ h h' => h (.inl h'))).trans (Kept.putObj _ _ _ (fun h => h (.inr (.inr rfl))))
      · rintro k (h | h)
        · rcases hC2 k h with h | h
          · exact .inl (.inl h)
          · exact .inr (by have := hb2.size; omega)
        · exact .inl (.inr h)
      · have hs5 : ∀ o, W4.heap.size ≤ (W4.putObj (d + 1) o).heap.size := fun o => (Kept.putObj (K := fun _ => False) W4 (d + 1) o (fun h => h)).size
        rintro k (h | h)
        · exact Nat.lt_of_lt_of_le (hC4 k h) (hs5 _)
        · exact Nat.lt_of_lt_of_le (by omega) (hs5 _)
    have finx : ∀ (c : Code) (W4 : World), Left (Ix c) C (pre ++ [x]) W3 W4 → ∃ v W5, (Instr.endRound (d + 1) (some c)).run P W4 = .ok v W5 ∧
        ((Ending.returned v = .returned (.bool true) ∧ Left (fun s C1 A => ∃ C, C1 = withTwo C d ∧ (∀ k, C k → k ≠ d ∧ k ≠ d + 1) ∧ I s C A ∧ (∃ q', q' = q ∧ A.heap[d + 1]? = some (.loop q')) ∧ A.heap[d]? = some (.deferred (some []))) (withTwo C d) (pre ++ [x]) W1 W5) ∨
         (Ending.returned v = .returned (.bool false) ∧ Left (fun s C1 A => ∃ c C, C1 = withTwo C d ∧ (∀ k, C k → k ≠ d ∧ k ≠ d + 1) ∧ Ix c s C A ∧ (∃ q', q' = { q with state := .done, pending := some c } ∧ A.heap[d + 1]? = some (.loop q')) ∧ A.heap[d]? = some (.deferred (some []))) (withTwo C d) (pre ++ [x]) W1 W5)) := by
      intro c W4 h
      obtain ⟨W5, h1, C2, h2, h3, h4, h5, h6, h7, h8⟩ := fin (Ix c) (some c) W4 (hIx c) h
      exact ⟨_, W5, h1, .inr ⟨rfl, _, ⟨c, C2, rfl, h2, h3, ⟨_, rfl, h4⟩, h5⟩, h6, h7, h8⟩⟩
    rintro e a3 W4 hp
    cases e with
    | normal =>
      obtain ⟨W5, h1, C2, h2, h3, h4, h5, h6, h7, h8⟩ := fin I none W4 hI hp
      refine ⟨_, W5, h1, .inl ⟨rfl, _, ⟨C2, rfl, h2, h3, ⟨_, rfl, ?_⟩, h5⟩, h6, h7, h8⟩⟩
      have e : ({ q with state := .ready, pending := none } : Loop) = q := by cases q; simp_all
      rw [← e]; exact h4
    | ret => exact finx .ret W4 hp
    | exit id => exact finx (.exit id) W4 hp
    | goto t => exact finx (.goto t) W4 hp
    | panic ch => exact hp.elim
    | outgrown => exact hp.elim
  · -- behind the iterator
    have hput : ∀ (Z : List α → (Nat → Prop) → World → Prop) s C A o, (∀ s C A B, Z s C A → Kept (fun k => k < w.heap.size ∨ C k) A B → Z s C B) → (∀ k, C k → k ≠ d ∧ k ≠ d + 1) → Z s C A → Z s C (A.putObj (d + 1) o) := by
      intro Z s C A o hZ hne hz
      refine hZ _ _ _ _ hz (Kept.putObj _ _ _ ?_)
      rintro (h | h)
      · omega
      · exact (hne _ h).2 rfl
    rintro e W2 ⟨⟨v, rfl⟩, (⟨xs, C1, hS, C, rfl, hne, hi, ⟨q, rfl, hl⟩, hdd⟩ | ⟨pre, C1, hSp, c, C, rfl, hne, hi, ⟨q, rfl, hl⟩, hdd⟩)⟩
    · refine ⟨none, _, by rw [run_endLoop (P := P) hl (by rw [p6]; decide), p7], ?_⟩
      exact hdone d xs C _ (by omega) hS (hput I _ _ _ _ hI hne hi) ((World.putObj_heap_other (by omega)).trans hdd)
    · refine ⟨some c, _, run_endLoop (P := P) hl (by simp), ?_⟩
      exact hstop d c pre C _ (by omega) hSp (hput (Ix c) _ _ _ _ (hIx c) hne hi) ((World.putObj_heap_other (by omega)).trans hdd)

end Go.Proofs.YtblcmnlbapbebaaDoor
