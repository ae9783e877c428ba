/- How entries lie in memory; the laws' own count of them. -/
import Derived.Test.YtgbdhmaacfmimaaDoorProg
import Derived.Test.YtgbdhmaacfmimaaDoorSz
namespace Go.Proofs.YtgbdhmaacfmimaaDoor
open Go.RowKit

structure Ent where
  path : List ByteArray
  what : Int
  dir : Bool
  mode : Int
  data : ByteArray

def EntOk (w : World) (lo hi : Nat) (e : Ent) (pa : Option Addr) (pc : Nat) : Prop :=
  StrsAt w lo hi (.slice pa e.path.length pc) e.path ∧ (Lit.int .i64 e.what).wf = true ∧ (Lit.int .i64 e.mode).wf = true ∧ e.data.size ≤ maxLen ∧ e.path.length ≤ pc ∧ pc ≤ maxLen

/-- The value is a slice of these entries, five cells each. -/
def EntsAt (w : World) (lo hi : Nat) (v : Value) (l : List Ent) : Prop :=
  ∃ a cap, v = .slice a l.length cap ∧ l.length ≤ maxLen ∧
    (0 < l.length → ∃ b o, a = some ⟨b, o, none⟩ ∧ lo ≤ b ∧ b < hi ∧ ∀ (i : Nat) (h : i < l.length), ∃ pa pc,
      w.cell? ⟨b, o + i * 5, none⟩ = some (.slice pa l[i].path.length pc) ∧ w.cell? ⟨b, o + i * 5 + 1, none⟩ = some (.int .i64 l[i].what) ∧
      w.cell? ⟨b, o + i * 5 + 2, none⟩ = some (.bool l[i].dir) ∧ w.cell? ⟨b, o + i * 5 + 3, none⟩ = some (.int .i64 l[i].mode) ∧ w.cell? ⟨b, o + i * 5 + 4, none⟩ = some (.string l[i].data) ∧ EntOk w lo hi l[i] pa pc)

theorem EntOk.keep {w w' : World} {lo hi B : Nat} {e : Ent} {pa : Option Addr} {pc : Nat} (h : EntOk w lo hi e pa pc) (hb : Below B w w') (hB : hi ≤ B) : EntOk w' lo hi e pa pc := ⟨h.1.keep hb hB, h.2⟩
theorem EntOk.wide {w : World} {lo hi lo' hi' : Nat} {e : Ent} {pa : Option Addr} {pc : Nat} (h : EntOk w lo hi e pa pc) (h1 : lo' ≤ lo) (h2 : hi ≤ hi') : EntOk w lo' hi' e pa pc := ⟨h.1.wide h1 h2, h.2⟩
theorem EntsAt.keep {w w' : World} {lo hi B : Nat} {v : Value} {l : List Ent} (h : EntsAt w lo hi v l) (hb : Below B w w') (hB : hi ≤ B) : EntsAt w' lo hi v l := by
  obtain ⟨a, cap, hv, hl, hc⟩ := h
  refine ⟨a, cap, hv, hl, fun h0 => ?_⟩
  obtain ⟨b, o, ha, h1, h2, hcell⟩ := hc h0
  refine ⟨b, o, ha, h1, h2, fun i hi => ?_⟩
  obtain ⟨pa, pc, c0, c1, c2, c3, c4, hr⟩ := hcell i hi
  exact ⟨pa, pc, by rw [hb.cell (p := ⟨b, o + i * 5, none⟩) (by show b < B; omega)]; exact c0, by rw [hb.cell (p := ⟨b, o + i * 5 + 1, none⟩) (by show b < B; omega)]; exact c1,
    by rw [hb.cell (p := ⟨b, o + i * 5 + 2, none⟩) (by show b < B; omega)]; exact c2, by rw [hb.cell (p := ⟨b, o + i * 5 + 3, none⟩) (by show b < B; omega)]; exact c3,
    by rw [hb.cell (p := ⟨b, o + i * 5 + 4, none⟩) (by show b < B; omega)]; exact c4, hr.keep hb hB⟩

/-- An entry as one value. -/
abbrev aggE (e : Ent) (pa : Option Addr) (pc : Nat) : Value := .agg #[.slice pa e.path.length pc, .int .i64 e.what, .bool e.dir, .int .i64 e.mode, .string e.data]

def szE (e : Ent) (L : Int) : Int := if szStrs e.path L < 0 then -1 else if szStrs e.path L - e.data.size < 0 then -1 else szStrs e.path L - e.data.size
theorem szE_le (e : Ent) (L : Int) (h : 0 ≤ L) : szE e L ≤ L := by
  have h1 := szStrs_le e.path L h
  unfold szE
  split
  · omega
  · split <;> omega

set_option maxHeartbeats 1000000 in
theorem szEntry_any (e : Ent) (pa : Option Addr) (pc : Nat) (left : Int) (w : World) (lo hi : Nat) (he : EntOk w lo hi e pa pc) (hhi : hi ≤ w.heap.size) (h0 : 0 ≤ left) (h1 : left ≤ 1048576) :
    Calls Tryd.prog 9 #[aggE e pa pc, .int .i64 left] w fun r w' => r = .returned (.int .i64 (szE e left)) ∧ Below w.heap.size w w' := by
  obtain ⟨path, what, dir, mode, data⟩ := e
  obtain ⟨hp, _, _, hd, _⟩ := he
  have hd : data.size ≤ maxLen := hd
  unfold maxLen at hd
  have hle := szStrs_le path left h0
  have HD : Hid (szE ⟨path, what, dir, mode, data⟩ left = if szStrs path left < 0 then -1 else if szStrs path left - data.size < 0 then -1 else szStrs path left - data.size) := rfl
  have HC : Hid (∀ W, Below w.heap.size w W → Calls Tryd.prog 20 #[.slice pa path.length pc, .int .i64 left] W fun e w' => e = .returned (.int .i64 (szStrs path left)) ∧ w' = W) := fun W hW => szStringS_any path _ left W lo hi (StrsAt.keep hp hW hhi) h0 h1
  clear hp
  show Calls Tryd.prog 9 #[.agg #[.slice pa path.length pc, .int .i64 what, .bool dir, .int .i64 mode, .string data], .int .i64 left] w _
  generalize szE ⟨path, what, dir, mode, data⟩ left = res at HD ⊢
  generalize szStrs path left = sp at HD HC hle
  have HA : Hid (∀ o, Below w.heap.size w (w.alloc o)) := fun o => (Below.refl _ _).alloc (Nat.le_refl _) o
  go_enter Tryd.func9, Tryd.ntmps9
  go_wp2_with fail
  refine (HC.out _ (HA.out _)).mono ?_
  rintro e w1 ⟨rfl, rfl⟩
  by_cases hn1 : sp < 0
  · have hr := HD.out
    rw [if_pos hn1] at hr
    subst hr
    go_wp2_with fail
    go_ret
    exact ⟨rfl, HA.out _⟩
  · by_cases hn2 : sp - data.size < 0
    · have hr := HD.out
      rw [if_neg hn1, if_pos hn2] at hr
      subst hr
      go_wp2_with fail
      go_ret
      exact ⟨rfl, HA.out _⟩
    · have hr := HD.out
      rw [if_neg hn1, if_neg hn2] at hr
      subst hr
      go_wp2_with fail
      go_ret
      exact ⟨rfl, HA.out _⟩

set_option maxHeartbeats 1000000 in
theorem szEntryS_any (l : List Ent) (v : Value) (left : Int) (w : World) (lo hi : Nat) (hv : EntsAt w lo hi v l) (hhi : hi ≤ w.heap.size) (h0 : 0 ≤ left) (h1 : left ≤ 1048576) :
    Calls Tryd.prog 4 #[v, .int .i64 left] w fun e w' => e = .returned (.int .i64 (szKids szE l left)) ∧ Below w.heap.size w w' := by
  obtain ⟨a, cap, rfl, hl, hc⟩ := hv
  unfold maxLen at hl
  by_cases hneg : left - l.length < 0
  · go_enter Tryd.func4, Tryd.ntmps4
    go_wp2
    go_ret
    exact ⟨by rw [szKids, if_pos hneg]; rfl, Below.refl _ _⟩
  · have HF : Hid (szKids szE l left = szKidsLoop szE (l.drop 0) (left - l.length)) := by show _ = _; rw [szKids, if_neg hneg]; rfl
    go_enter Tryd.func4, Tryd.ntmps4
    go_wp2
    go_loopw [1, 5] (fun x i wr => ∃ (k : Nat) (L : Int), k ≤ l.length ∧ i = .int .i64 k ∧ x = .int .i64 L ∧ 0 ≤ L ∧ L ≤ 1048576 ∧ Hid (szKids szE l left = szKidsLoop szE (l.drop k) L) ∧ Hid (Below w.heap.size w wr)) (fun _ i _ => l.length - (intOf i).toNat)
    case atStart => exact ⟨0, _, Nat.zero_le _, rfl, rfl, by omega, by omega, HF, Below.refl _ _⟩
    case round =>
      obtain ⟨k, L, hk, rfl, rfl, hL0, hL1, HK, HB⟩ := hrel
      clear HF
      by_cases hlt : k < l.length
      · obtain ⟨b, o, rfl, hb1, hb2, hcell⟩ := hc (by omega)
        obtain ⟨pa, pc, c0, c1, c2, c3, c4, hr⟩ := hcell k hlt
        have HR : Hid (EntOk wr lo hi l[k] pa pc) := hr.keep HB.out hhi
        have hz : hi ≤ wr.heap.size := Nat.le_trans hhi HB.out.size
        rw [← HB.out.cell (p := ⟨b, _, none⟩) (by show b < w.heap.size; omega)] at c0 c1 c2 c3 c4
        have HE : Hid (szKidsLoop szE (l.drop k) L = if szE l[k] L < 0 then -1 else szKidsLoop szE (l.drop (k + 1)) (szE l[k] L)) := szKidsLoop_drop szE l k hlt L
        have hle := szE_le l[k] L hL0
        clear hc hcell hr
        go_wp2_with fail
        refine (szEntry_any l[k] pa pc L wr lo hi HR.out hz hL0 hL1).mono ?_
        rintro e w1 ⟨rfl, hB1⟩
        have HB1 : Hid (Below w.heap.size w w1) := HB.out.trans (hB1.mono HB.out.size)
        clear hB1
        by_cases hn : szE l[k] L < 0
        · go_wp2_with fail
          go_ret
          refine ⟨ret_int ?_, HB1.out⟩
          rw [HK.out, HE.out, if_pos hn]
        · go_wp2_with fail
          go_roundw
          case rel => exact ⟨k + 1, _, by omega, by go_num, rfl, by omega, by omega, by show _ = _; rw [HK.out, HE.out, if_neg (by omega)], HB1⟩
          case measure => simp [intOf]; omega
      · go_wp2
        go_ret
        refine ⟨ret_int ?_, HB.out⟩
        rw [HK.out, List.drop_eq_nil_of_le (by omega), szKidsLoop]

end Go.Proofs.YtgbdhmaacfmimaaDoor
