/- How entries lie in memory; the laws' own count of them. -/
import Derived.Test.YtkidfflmbfnogaaDoorProg
import Derived.Test.YtkidfflmbfnogaaDoorLow
namespace Go.Proofs.YtkidfflmbfnogaaDoor
open Go.RowKit

structure Ent where
  path : List ByteArray
  what : Int
  dir : Bool
  mode : Int
  data : ByteArray

def EntOk (w : World) (lo hi : Nat) (e : Ent) (pa : Option Addr) (pc : Nat) : Prop :=
  StrsAt w lo hi (.slice pa e.path.length pc) e.path ∧ (Lit.int .i64 e.what).wf = true ∧ (Lit.int .i64 e.mode).wf = true ∧ e.data.size ≤ maxLen ∧ e.path.length ≤ pc ∧ pc ≤ maxLen

/-- The value is a slice of these entries, five cells each. -/
def EntsAt (w : World) (lo hi : Nat) (v : Value) (l : List Ent) : Prop :=
  ∃ a cap, v = .slice a l.length cap ∧ l.length ≤ maxLen ∧
    (0 < l.length → ∃ b o, a = some ⟨b, o, none⟩ ∧ lo ≤ b ∧ b < hi ∧ ∀ (i : Nat) (h : i < l.length), ∃ pa pc,
      w.cell? ⟨b, o + i * 5, none⟩ = some (.slice pa l[i].path.length pc) ∧ w.cell? ⟨b, o + i * 5 + 1, none⟩ = some (.int .i64 l[i].what) ∧
      w.cell? ⟨b, o + i * 5 + 2, none⟩ = some (.bool l[i].dir) ∧ w.cell? ⟨b, o + i * 5 + 3, none⟩ = some (.int .i64 l[i].mode) ∧ w.cell? ⟨b, o + i * 5 + 4, none⟩ = some (.string l[i].data) ∧ EntOk w lo hi l[i] pa pc)

theorem EntOk.keep {w w' : World} {lo hi B : Nat} {e : Ent} {pa : Option Addr} {pc : Nat} (h : EntOk w lo hi e pa pc) (hb : Below B w w') (hB : hi ≤ B) : EntOk w' lo hi e pa pc := ⟨h.1.keep hb hB, h.2⟩
theorem EntOk.wide {w : World} {lo hi lo' hi' : Nat} {e : Ent} {pa : Option Addr} {pc : Nat} (h : EntOk w lo hi e pa pc) (h1 : lo' ≤ lo) (h2 : hi ≤ hi') : EntOk w lo' hi' e pa pc := ⟨h.1.wide h1 h2, h.2⟩
theorem EntsAt.keep {w w' : World} {lo hi B : Nat} {v : Value} {l : List Ent} (h : EntsAt w lo hi v l) (hb : Below B w w') (hB : hi ≤ B) : EntsAt w' lo hi v l := by
  obtain ⟨a, cap, hv, hl, hc⟩ := h
  refine ⟨a, cap, hv, hl, fun h0 => ?_⟩
  obtain ⟨b, o, ha, h1, h2, hcell⟩ := hc h0
  refine ⟨b, o, ha, h1, h2, fun i hi => ?_⟩
  obtain ⟨pa, pc, c0, c1, c2, c3, c4, hr⟩ := hcell i hi
  exact ⟨pa, pc, by rw [hb.cell (p := ⟨b, o + i * 5, none⟩) (by show b < B; omega)]; exact c0, by rw [hb.cell (p := ⟨b, o + i * 5 + 1, none⟩) (by show b < B; omega)]; exact c1,
    by rw [hb.cell (p := ⟨b, o + i * 5 + 2, none⟩) (by show b < B; omega)]; exact c2, by rw [hb.cell (p := ⟨b, o + i * 5 + 3, none⟩) (by show b < B; omega)]; exact c3,
    by rw [hb.cell (p := ⟨b, o + i * 5 + 4, none⟩) (by show b < B; omega)]; exact c4, hr.keep hb hB⟩

/-- An entry as one value. -/
abbrev aggE (e : Ent) (pa : Option Addr) (pc : Nat) : Value := .agg #[.slice pa e.path.length pc, .int .i64 e.what, .bool e.dir, .int .i64 e.mode, .string e.data]


end Go.Proofs.YtkidfflmbfnogaaDoor
