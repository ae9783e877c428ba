/- Marks of trails: how lists of them lie in memory; what the laws count of them, their copies and their comparison. -/
import Derived.Test.YtjnfdjoglmbnoaaLow
import Derived.Test.YtjnfdjoglmbnoaaTo
import Derived.Test.YtjnfdjoglmbnoaaEq
namespace Go.Proofs.Ytjnfdjoglmbnoaa
open Go.RowKit

structure Mk where
  path : List ByteArray
  sub : Bool
/-- The value is a slice of these marks, two cells each. -/
def MksAt (w : World) (lo hi : Nat) (v : Value) (l : List Mk) : Prop :=
  ∃ a cap, v = .slice a l.length cap ∧ l.length ≤ maxLen ∧
    (0 < l.length → ∃ b o, a = some ⟨b, o, none⟩ ∧ lo ≤ b ∧ b < hi ∧ ∀ (i : Nat) (h : i < l.length), ∃ pa pc,
      w.cell? ⟨b, o + i * 2, none⟩ = some (.slice pa l[i].path.length pc) ∧ w.cell? ⟨b, o + i * 2 + 1, none⟩ = some (.bool l[i].sub) ∧ StrsAt w lo hi (.slice pa l[i].path.length pc) l[i].path)
theorem MksAt.keep {w w' : World} {lo hi B : Nat} {v : Value} {l : List Mk} (h : MksAt w lo hi v l) (hb : Below B w w') (hB : hi ≤ B) : MksAt w' lo hi v l := by
  obtain ⟨a, cap, hv, hl, hc⟩ := h
  refine ⟨a, cap, hv, hl, fun h0 => ?_⟩
  obtain ⟨b, o, ha, h1, h2, hcell⟩ := hc h0
  refine ⟨b, o, ha, h1, h2, fun i hi => ?_⟩
  obtain ⟨pa, pc, c0, c1, hr⟩ := hcell i hi
  exact ⟨pa, pc, by rw [hb.cell (p := ⟨b, o + i * 2, none⟩) (by show b < B; omega)]; exact c0, by rw [hb.cell (p := ⟨b, o + i * 2 + 1, none⟩) (by show b < B; omega)]; exact c1, hr.keep hb hB⟩


/-- The same, no path's capacity below its length. -/
def McsAt (w : World) (lo hi : Nat) (v : Value) (l : List Mk) : Prop :=
  ∃ a cap, v = .slice a l.length cap ∧ l.length ≤ maxLen ∧
    (0 < l.length → ∃ b o, a = some ⟨b, o, none⟩ ∧ lo ≤ b ∧ b < hi ∧ ∀ (i : Nat) (h : i < l.length), ∃ pa pc, (l[i].path.length ≤ pc ∧ pc ≤ maxLen) ∧
      w.cell? ⟨b, o + i * 2, none⟩ = some (.slice pa l[i].path.length pc) ∧ w.cell? ⟨b, o + i * 2 + 1, none⟩ = some (.bool l[i].sub) ∧ StrsAt w lo hi (.slice pa l[i].path.length pc) l[i].path)
theorem McsAt.mks {w : World} {lo hi : Nat} {v : Value} {l : List Mk} (h : McsAt w lo hi v l) : MksAt w lo hi v l := by
  obtain ⟨a, cap, hv, hl, hc⟩ := h
  refine ⟨a, cap, hv, hl, fun h0 => ?_⟩
  obtain ⟨b, o, ha, g1, g2, hcell⟩ := hc h0
  refine ⟨b, o, ha, g1, g2, fun i hi => ?_⟩
  obtain ⟨pa, pc, _, c0, c1, hr⟩ := hcell i hi
  exact ⟨pa, pc, c0, c1, hr⟩
theorem McsAt.keep {w w' : World} {lo hi B : Nat} {v : Value} {l : List Mk} (h : McsAt w lo hi v l) (hb : Below B w w') (hB : hi ≤ B) : McsAt w' lo hi v l := by
  obtain ⟨a, cap, hv, hl, hc⟩ := h
  refine ⟨a, cap, hv, hl, fun h0 => ?_⟩
  obtain ⟨b, o, ha, h1, h2, hcell⟩ := hc h0
  refine ⟨b, o, ha, h1, h2, fun i hi => ?_⟩
  obtain ⟨pa, pc, hp, c0, c1, hr⟩ := hcell i hi
  exact ⟨pa, pc, hp, by rw [hb.cell (p := ⟨b, o + i * 2, none⟩) (by show b < B; omega)]; exact c0, by rw [hb.cell (p := ⟨b, o + i * 2 + 1, none⟩) (by show b < B; omega)]; exact c1, hr.keep hb hB⟩

theorem MksAt.wide {w : World} {lo hi lo' hi' : Nat} {v : Value} {l : List Mk} (h : MksAt w lo hi v l) (h1 : lo' ≤ lo) (h2 : hi ≤ hi') : MksAt w lo' hi' v l := by
  obtain ⟨a, cap, hv, hl, hc⟩ := h
  refine ⟨a, cap, hv, hl, fun h0 => ?_⟩
  obtain ⟨b, o, ha, g1, g2, hcell⟩ := hc h0
  refine ⟨b, o, ha, by omega, by omega, fun i hi => ?_⟩
  obtain ⟨pa, pc, c0, c1, hr⟩ := hcell i hi
  exact ⟨pa, pc, c0, c1, hr.wide h1 h2⟩

def szM (m : Mk) (L : Int) : Int := if szStrs m.path L < 0 then -1 else szStrs m.path L
theorem szM_le (m : Mk) (L : Int) (h : 0 ≤ L) : szM m L ≤ L := by
  have h1 := szStrs_le m.path L h
  unfold szM
  split <;> omega

set_option maxHeartbeats 1000000 in
theorem szMark_any (m : Mk) (pa : Option Addr) (pc : Nat) (left : Int) (w : World) (lo hi : Nat) (hm : StrsAt w lo hi (.slice pa m.path.length pc) m.path) (hhi : hi ≤ w.heap.size) (h0 : 0 ≤ left) (h1 : left ≤ 1048576) :
    Calls Try.prog 9 #[.agg #[.slice pa m.path.length pc, .bool m.sub], .int .i64 left] w fun r w' => r = .returned (.int .i64 (szM m left)) ∧ Below w.heap.size w w' := by
  obtain ⟨path, sub⟩ := m
  have HD : Hid (szM ⟨path, sub⟩ left = if szStrs path left < 0 then -1 else szStrs path left) := rfl
  have HC : Hid (∀ W, Below w.heap.size w W → Calls Try.prog 19 #[.slice pa path.length pc, .int .i64 left] W fun e w' => e = .returned (.int .i64 (szStrs path left)) ∧ w' = W) := fun W hW => szStringS_any path _ left W lo hi (StrsAt.keep hm hW hhi) h0 h1
  clear hm
  show Calls Try.prog 9 #[.agg #[.slice pa path.length pc, .bool sub], .int .i64 left] w _
  generalize szM ⟨path, sub⟩ left = res at HD ⊢
  generalize szStrs path left = sp at HD HC
  have HA : Hid (∀ o, Below w.heap.size w (w.alloc o)) := fun o => (Below.refl _ _).alloc (Nat.le_refl _) o
  go_enter Try.func9, Try.ntmps9
  go_wp2_with fail
  refine (HC.out _ (HA.out _)).mono ?_
  rintro e w1 ⟨rfl, rfl⟩
  by_cases hn1 : sp < 0
  · have hr := HD.out
    rw [if_pos hn1] at hr
    subst hr
    go_wp2_with fail
    go_ret
    exact ⟨rfl, HA.out _⟩
  · have hr := HD.out
    rw [if_neg hn1] at hr
    subst hr
    go_wp2_with fail
    go_ret
    exact ⟨rfl, HA.out _⟩

set_option maxHeartbeats 1000000 in
theorem szMarkS_any (l : List Mk) (v : Value) (left : Int) (w : World) (lo hi : Nat) (hv : MksAt w lo hi v l) (hhi : hi ≤ w.heap.size) (h0 : 0 ≤ left) (h1 : left ≤ 1048576) :
    Calls Try.prog 4 #[v, .int .i64 left] w fun e w' => e = .returned (.int .i64 (szKids szM l left)) ∧ Below w.heap.size w w' := by
  obtain ⟨a, cap, rfl, hl, hc⟩ := hv
  unfold maxLen at hl
  by_cases hneg : left - l.length < 0
  · go_enter Try.func4, Try.ntmps4
    go_wp2
    go_ret
    exact ⟨by rw [szKids, if_pos hneg]; rfl, Below.refl _ _⟩
  · have HF : Hid (szKids szM l left = szKidsLoop szM (l.drop 0) (left - l.length)) := by show _ = _; rw [szKids, if_neg hneg]; rfl
    go_enter Try.func4, Try.ntmps4
    go_wp2
    go_loopw [1, 5] (fun x i wr => ∃ (k : Nat) (L : Int), k ≤ l.length ∧ i = .int .i64 k ∧ x = .int .i64 L ∧ 0 ≤ L ∧ L ≤ 1048576 ∧ Hid (szKids szM l left = szKidsLoop szM (l.drop k) L) ∧ Hid (Below w.heap.size w wr)) (fun _ i _ => l.length - (intOf i).toNat)
    case atStart => exact ⟨0, _, Nat.zero_le _, rfl, rfl, by omega, by omega, HF, Below.refl _ _⟩
    case round =>
      obtain ⟨k, L, hk, rfl, rfl, hL0, hL1, HK, HB⟩ := hrel
      clear HF
      by_cases hlt : k < l.length
      · obtain ⟨b, o, rfl, hb1, hb2, hcell⟩ := hc (by omega)
        obtain ⟨pa, pc, c0, c1, hr⟩ := hcell k hlt
        have HR : Hid (StrsAt wr lo hi (.slice pa l[k].path.length pc) l[k].path) := hr.keep HB.out hhi
        have hz : hi ≤ wr.heap.size := Nat.le_trans hhi HB.out.size
        rw [← HB.out.cell (p := ⟨b, _, none⟩) (by show b < w.heap.size; omega)] at c0 c1
        have HE : Hid (szKidsLoop szM (l.drop k) L = if szM l[k] L < 0 then -1 else szKidsLoop szM (l.drop (k + 1)) (szM l[k] L)) := szKidsLoop_drop szM l k hlt L
        have hle := szM_le l[k] L hL0
        clear hc hcell hr
        go_wp2_with fail
        refine (szMark_any l[k] pa pc L wr lo hi HR.out hz hL0 hL1).mono ?_
        rintro e w1 ⟨rfl, hB1⟩
        have HB1 : Hid (Below w.heap.size w w1) := HB.out.trans (hB1.mono HB.out.size)
        clear hB1
        by_cases hn : szM l[k] L < 0
        · go_wp2_with fail
          go_ret
          refine ⟨ret_int ?_, HB1.out⟩
          rw [HK.out, HE.out, if_pos hn]
        · go_wp2_with fail
          go_roundw
          case rel => exact ⟨k + 1, _, by omega, by go_num, rfl, by omega, by omega, by show _ = _; rw [HK.out, HE.out, if_neg (by omega)], HB1⟩
          case measure => simp [intOf]; omega
      · go_wp2
        go_ret
        refine ⟨ret_int ?_, HB.out⟩
        rw [HK.out, List.drop_eq_nil_of_le (by omega), szKidsLoop]
theorem szM_one (m : Mk) (L : Int) (h : 0 ≤ szM m L) : (m.path.length : Int) ≤ L := by
  unfold szM at h
  split at h
  · omega
  · rename_i hn
    rw [szStrs] at hn
    split at hn
    · omega
    · omega
theorem szM_each : ∀ (l : List Mk) (L : Int), 0 ≤ L → 0 ≤ szKidsLoop szM l L → ∀ (i : Nat) (h : i < l.length), (l[i].path.length : Int) ≤ L
  | [], _, _, _, i, h => by simp at h
  | e :: r, L, h0, hz, i, h => by
    rw [szKidsLoop] at hz
    split at hz
    · omega
    · rename_i hn
      have h1 := szM_one e L (by omega)
      have h2 := szM_le e L h0
      match i, h with
      | 0, _ => exact h1
      | i + 1, h =>
        have := szM_each r (szM e L) (by omega) hz i (by simpa using h)
        simp only [List.getElem_cons_succ]
        omega
theorem szM_len {l : List Mk} (h : 0 ≤ szKids szM l 1048576) : l.length ≤ 1048576 ∧ ∀ (i : Nat) (h : i < l.length), l[i].path.length ≤ 1048576 := by
  rw [szKids] at h
  split at h
  · omega
  · refine ⟨by omega, fun i hi => ?_⟩
    have := szM_each l (1048576 - l.length) (by omega) h i hi
    omega


def zeroM : Array Value := #[.slice none 0 0, .bool false]
theorem info_mark : (Try.prog.info? 35).map (fun i => (i.zero, i.size, i.bytes)) = some (some (.agg zeroM), 2, 32) := by kernel_rfl
/-- 'make([]T, n)', an element of s cells. -/
theorem run_make_s {P : Program} (t e : TypeId) (z : Array Value) (s bytes : Nat) (ht : P.underlying t = some (.slice e)) (hinfo : (P.info? e).map (fun i => (i.zero, i.size, i.bytes)) = some (some (.agg z), s, bytes))
    (kl kc : IntKind) (n : Nat) (hbytes : bytes * n ≤ 281474976710656) (h63 : n ≤ 9223372036854775807) (w : World) :
    (Instr.makeSlice t (.int kl (n : Int)) (.int kc (n : Int))).run P w = .ok (.slice (some ⟨w.heap.size, 0, none⟩) n n) (w.alloc (.cells (madeCells z (n * s)) e)) := by
  obtain ⟨i, hi, hzz⟩ := Option.map_eq_some_iff.1 hinfo
  simp only [Prod.mk.injEq] at hzz
  obtain ⟨hz, hs, hb⟩ := hzz
  have hb' : (i.bytes : Int) * (n : Int) ≤ 281474976710656 := by
    rw [hb]
    have h : ((bytes * n : Nat) : Int) ≤ 281474976710656 := by omega
    rwa [Int.natCast_mul] at h
  have hr := run_make (P := P) w t e i (.agg z) ht hi hz kl kc n n (by omega) (Int.le_refl _) hb' (by omega)
  simp only [Int.toNat_natCast, hs] at hr
  exact hr

abbrev set2 (w : World) (g o : Nat) (v0 v1 : Value) : World := (w.setCell ⟨g, o, none⟩ v0).setCell ⟨g, o + 1, none⟩ v1
theorem set2_other (w : World) (g o : Nat) (v0 v1 : Value) (k : Nat) (hk : k ≠ g) : (set2 w g o v0 v1).heap[k]? = w.heap[k]? := by
  unfold set2
  rw [Below.heap_setCell _ _ _ _ hk, Below.heap_setCell _ _ _ _ hk]
theorem set2_size (w : World) (g o : Nat) (v0 v1 : Value) : (set2 w g o v0 v1).heap.size = w.heap.size := by
  simp [set2, World.setCell]
theorem set2_row {w : World} {g : Nat} {t : TypeId} {n : Nat} {f : Nat → Value} (h : w.rowIs g t n f) (o : Nat) (v0 v1 : Value) :
    (set2 w g o v0 v1).rowIs g t n (fun j => if j = o + 1 then v1 else if j = o then v0 else f j) := (h.set o v0).set (o + 1) v1
theorem set2_below {B : Nat} {w0 w : World} (h : Below B w0 w) {g : Nat} (hg : B ≤ g) (o : Nat) (v0 v1 : Value) : Below B w0 (set2 w g o v0 v1) :=
  (h.setCell (p := ⟨g, o, none⟩) hg v0).setCell (p := ⟨g, o + 1, none⟩) hg v1

set_option maxHeartbeats 1000000 in
theorem toMark_any (m : Mk) (pa : Option Addr) (pc : Nat) (w : World) (lo hi : Nat) (hm : StrsAt w lo hi (.slice pa m.path.length pc) m.path) (hhi : hi ≤ w.heap.size) (hl : m.path.length ≤ 1048576) :
    Calls Try.prog 12 #[.agg #[.slice pa m.path.length pc, .bool m.sub]] w fun r w' => ∃ pa' pc', r = .returned (.agg #[.slice pa' m.path.length pc', .bool m.sub]) ∧ (m.path.length ≤ pc' ∧ pc' ≤ maxLen) ∧ StrsAt w' w.heap.size w'.heap.size (.slice pa' m.path.length pc') m.path ∧ Below w.heap.size w w' := by
  obtain ⟨path, sub⟩ := m
  have hl : path.length ≤ 1048576 := hl
  have HC : Hid (∀ W, Below w.heap.size w W → Calls Try.prog 24 #[.slice pa path.length pc] W fun e w' => ∃ a, e = .returned (.slice a path.length path.length) ∧ StrsAt w' W.heap.size w'.heap.size (.slice a path.length path.length) path ∧ Below W.heap.size W w') := fun W hW =>
    (toStringS_cap path _ W lo hi (hm.keep hW hhi) (Nat.le_trans hhi hW.size) hl).mono fun e w' ⟨v', h1, h2, h3, _, a, h5⟩ => by
      subst h5
      exact ⟨a, h1, h2.strs, h3⟩
  clear hm
  show Calls Try.prog 12 #[.agg #[.slice pa path.length pc, .bool sub]] w _
  go_enter Try.func12, Try.ntmps12
  go_wp2_with fail
  generalize hW : ((w.alloc (Obj.cells #[.slice pa path.length pc, .bool sub] 32)).alloc (Obj.cells #[.slice none 0 0, .bool false] 35)).alloc (Obj.cells #[.slice none 0 0, .bool false] 35) = W
  have HW : Hid (Below w.heap.size w W ∧ W.heap.size = w.heap.size + 3 ∧ Blk W w.heap.size #[.slice pa path.length pc, .bool sub] 32 ∧ Blk W (w.heap.size + 1) zeroM 35 ∧ Blk W (w.heap.size + 1 + 1) zeroM 35) := by
    subst hW
    exact ⟨(((Below.refl _ _).alloc (Nat.le_refl _) _).alloc (by simp) _).alloc (by simp; omega) _, by simp, ((Blk.new _ _ _).alloc _).alloc _, (Blk.atn (A := zeroM) (by simp)).alloc _, Blk.atn (A := zeroM) (by simp)⟩
  clear hW
  refine (HC.out W HW.out.1).mono ?_
  rintro e w1 ⟨a1, rfl, hS1, hB1⟩
  obtain ⟨hB0, hZ0, b0, b1, b2⟩ := HW.out
  have HS1 : Hid (StrsAt w1 W.heap.size w1.heap.size (.slice a1 path.length path.length) path ∧ W.heap.size = w.heap.size + 3) := ⟨hS1, hZ0⟩
  have HBw : Hid (Below w.heap.size w w1) := hB0.trans (hB1.mono hB0.size)
  have q0 := b0.below hB1 (by omega)
  have q1 := b1.below hB1 (by omega)
  have q2 := b2.below hB1 (by omega)
  have hlt : w.heap.size + 2 < w1.heap.size := by have := hB1.size; omega
  have x1 := q0.cell 1 _ rfl
  have y0 := q1.cell 0 _ rfl
  have y1 := q1.cell 1 _ rfl
  have u0 := q1.frozen 0
  have u1 := q1.frozen 1
  have z0 := q2.cell 0 _ rfl
  have z1 := q2.cell 1 _ rfl
  have v0 := q2.frozen 0
  have v1 := q2.frozen 1
  clear hS1 hB1 hB0 hZ0 b0 b1 b2 q0 q1 q2 HW HC
  go_wp2_with fail
  refine bodyPost_ret (v := .agg #[.slice a1 path.length path.length, .bool sub]) (by simp [results, Try.results12, go_sem, y0, y1]) rfl ⟨_, _, rfl, ⟨Nat.le_refl _, by unfold maxLen; show path.length ≤ _; omega⟩, ?_, ?_⟩
  · obtain ⟨hS, hZ⟩ := HS1.out
    show StrsAt (set2 (set2 w1 (w.heap.size + 1 + 1) 0 (.slice a1 path.length path.length) (.bool sub)) (w.heap.size + 1) 0 (.slice a1 path.length path.length) (.bool sub)) w.heap.size (set2 (set2 w1 (w.heap.size + 1 + 1) 0 (.slice a1 path.length path.length) (.bool sub)) (w.heap.size + 1) 0 (.slice a1 path.length path.length) (.bool sub)).heap.size (.slice a1 path.length path.length) path
    rw [set2_size, set2_size]
    refine (strs_same hS fun k h1 h2 => ?_).wide (by omega) (Nat.le_refl _)
    rw [set2_other _ _ _ _ _ _ (by omega), set2_other _ _ _ _ _ _ (by omega)]
  · exact set2_below (set2_below HBw.out (by omega) 0 _ _) (by omega) 0 _ _

/-- Behind k rounds of toMarkS: block g is the row; the first k marks are laid. -/
def MadeM (l : List Mk) (g k : Nat) (f : Nat → Value) (w : World) : Prop :=
  w.rowIs g 35 (l.length * 2) f ∧ ∀ (i : Nat) (h : i < l.length), i < k → ∃ pa pc, (l[i].path.length ≤ pc ∧ pc ≤ maxLen) ∧ f (i * 2) = .slice pa l[i].path.length pc ∧ f (i * 2 + 1) = .bool l[i].sub ∧ StrsAt w (g + 1) w.heap.size (.slice pa l[i].path.length pc) l[i].path

theorem MadeM.step {l : List Mk} {g k : Nat} {f : Nat → Value} {wr w1 : World} (h : MadeM l g k f wr) (hk : k < l.length) (hb : Below wr.heap.size wr w1) (hg : g < wr.heap.size) {pa : Option Addr} {pc : Nat} (hpc : l[k].path.length ≤ pc ∧ pc ≤ maxLen) (ho : StrsAt w1 wr.heap.size w1.heap.size (.slice pa l[k].path.length pc) l[k].path) :
    MadeM l g (k + 1) (fun j => if j = k * 2 + 1 then .bool l[k].sub else if j = k * 2 then .slice pa l[k].path.length pc else f j) (set2 w1 g (k * 2) (.slice pa l[k].path.length pc) (.bool l[k].sub)) := by
  obtain ⟨hrow, hkids⟩ := h
  refine ⟨set2_row (hrow.of_block (hb.block g hg)) _ _ _, fun i hi hik => ?_⟩
  rw [set2_size]
  by_cases e1 : i = k
  · subst e1
    refine ⟨pa, pc, hpc, ?_, ?_, strs_same (ho.wide (by omega) (Nat.le_refl _)) fun b h1 h2 => set2_other _ _ _ _ _ b (by omega)⟩
    · dsimp only; rw [if_neg (by omega), if_pos rfl]
    · dsimp only; rw [if_pos rfl]
  · obtain ⟨pa', pc', hpc', q0, q1, hok⟩ := hkids i hi (by omega)
    have hO : StrsAt w1 (g + 1) wr.heap.size (.slice pa' l[i].path.length pc') l[i].path := hok.keep hb (Nat.le_refl _)
    refine ⟨pa', pc', hpc', ?_, ?_, strs_same (hO.wide (Nat.le_refl _) hb.size) fun b h1 h2 => set2_other _ _ _ _ _ b (by omega)⟩
    · dsimp only; rw [if_neg (by omega), if_neg (by omega)]; exact q0
    · dsimp only; rw [if_neg (by omega), if_neg (by omega)]; exact q1

theorem MadeM.done {l : List Mk} {g k B : Nat} {f : Nat → Value} {w : World} (h : MadeM l g k f w) (hk : ¬ k < l.length) (hl : l.length ≤ maxLen) (cap : Nat) (hB : B ≤ g) : McsAt w B w.heap.size (.slice (some ⟨g, 0, none⟩) l.length cap) l := by
  obtain ⟨hrow, hkids⟩ := h
  refine ⟨_, _, rfl, hl, fun _ => ⟨g, 0, rfl, hB, hrow.lt, fun i hi => ?_⟩⟩
  obtain ⟨pa, pc, hpc, q0, q1, hok⟩ := hkids i hi (by omega)
  refine ⟨pa, pc, hpc, ?_, ?_, hok.wide (by omega) (Nat.le_refl _)⟩
  · rw [Nat.zero_add, hrow.cell (by omega), q0]
  · rw [Nat.zero_add, hrow.cell (by omega), q1]

set_option maxHeartbeats 1000000 in
theorem toMarkS_any (l : List Mk) (v : Value) (w : World) (lo hi : Nat) (hv : MksAt w lo hi v l) (hhi : hi ≤ w.heap.size) (hl : l.length ≤ 1048576) (hsm : ∀ (i : Nat) (h : i < l.length), l[i].path.length ≤ 1048576) :
    Calls Try.prog 6 #[v] w fun e w' => ∃ a, e = .returned (.slice a l.length l.length) ∧ McsAt w' w.heap.size w'.heap.size (.slice a l.length l.length) l ∧ Below w.heap.size w w' := by
  obtain ⟨a, cap, rfl, _, hc⟩ := hv
  have HSm : Hid (∀ (i : Nat) (h : i < l.length), l[i].path.length ≤ 1048576) := hsm
  clear hsm
  have hmk := run_make_s (P := Try.prog) 25 35 zeroM 2 32 Try.underlying25 info_mark .i64 .i64 l.length (by omega) (by omega)
  go_enter Try.func6, Try.ntmps6
  go_wp2
  go_loopw [4] (fun i wr => ∃ (k : Nat) (f : Nat → Value), k ≤ l.length ∧ i = .int .i64 k ∧ Hid (Below w.heap.size w wr) ∧ Hid (MadeM l w.heap.size k f wr)) (fun i _ => l.length - (intOf i).toNat)
  case atStart =>
    exact ⟨0, _, Nat.zero_le _, rfl, (Below.refl _ _).alloc (Nat.le_refl _) _, rowIs_made_any w zeroM (l.length * 2) 35, fun i _ h => by omega⟩
  case round =>
    obtain ⟨k, f, hk, rfl, HB, HM⟩ := hrel
    by_cases hlt : k < l.length
    · obtain ⟨b, o, rfl, hb1, hb2, hcell⟩ := hc (by omega)
      obtain ⟨pa, pc, c0, c1, hr⟩ := hcell k hlt
      have HR : Hid (StrsAt wr lo hi (.slice pa l[k].path.length pc) l[k].path) := hr.keep HB.out hhi
      have hz : hi ≤ wr.heap.size := Nat.le_trans hhi HB.out.size
      rw [← HB.out.cell (p := ⟨b, _, none⟩) (by show b < w.heap.size; omega)] at c0 c1
      clear hc hcell hr hmk
      go_wp2_with fail
      refine (toMark_any l[k] pa pc wr lo hi HR.out hz (HSm.out k hlt)).mono ?_
      rintro e1 w1 ⟨pa', pc', rfl, hpc, hO, hB1⟩
      have HPc := hide hpc
      have HO : Hid (StrsAt w1 wr.heap.size w1.heap.size (.slice pa' l[k].path.length pc') l[k].path) := hO
      have HB1 : Hid (Below wr.heap.size wr w1) := hB1
      clear hO hB1 hpc
      have HG : Hid (w.heap.size < wr.heap.size) := HM.out.1.lt
      have hcw : ∀ j, j < 2 → w1.cell? ⟨w.heap.size, k * 2 + j, none⟩ = some (f (k * 2 + j)) := fun j hj => by
        rw [HB1.out.cell (p := ⟨w.heap.size, _, none⟩) HG.out]; exact HM.out.1.cell (by omega)
      have hfw : ∀ j, w1.frozen? ⟨w.heap.size, k * 2 + j, none⟩ = false := fun j => by
        rw [HB1.out.frozen (p := ⟨w.heap.size, _, none⟩) HG.out]; exact HM.out.1.frozen _
      have d0 := hcw 0 (by omega)
      have d1 := hcw 1 (by omega)
      have f0 := hfw 0
      have f1 := hfw 1
      simp only [Nat.add_zero] at d0 f0
      clear hcw hfw
      go_wp2_with fail
      go_roundw
      case rel => exact ⟨k + 1, _, by omega, by go_num, set2_below (HB.out.trans (HB1.out.mono HB.out.size)) (Nat.le_refl _) _ _ _, HM.out.step hlt HB1.out HG.out HPc.out HO.out⟩
      case measure => simp [intOf]; omega
    · go_wp2
      go_ret
      exact ⟨_, rfl, HM.out.done hlt (by unfold maxLen; omega) _ (Nat.le_refl _), HB.out⟩

set_option maxHeartbeats 1000000 in
theorem eqMark_any (m : Mk) (pa pa' : Option Addr) (pc pc' : Nat) (w : World) (lo hi lo' hi' : Nat) (h : StrsAt w lo hi (.slice pa m.path.length pc) m.path) (h' : StrsAt w lo' hi' (.slice pa' m.path.length pc') m.path) (hhi : hi ≤ w.heap.size) (hhi' : hi' ≤ w.heap.size) :
    Calls Try.prog 18 #[.agg #[.slice pa m.path.length pc, .bool m.sub], .agg #[.slice pa' m.path.length pc', .bool m.sub]] w fun r w' => r = .returned (.bool true) ∧ Below w.heap.size w w' := by
  obtain ⟨path, sub⟩ := m
  have HC : Hid (∀ W, Below w.heap.size w W → Calls Try.prog 28 #[.slice pa path.length pc, .slice pa' path.length pc'] W fun e w' => e = .returned (.bool true) ∧ Below W.heap.size W w') := fun W hW =>
    eqStringS_any path _ _ W lo hi lo' hi' (h.keep hW hhi) (h'.keep hW hhi') (Nat.le_trans hhi hW.size) (Nat.le_trans hhi' hW.size)
  clear h h'
  show Calls Try.prog 18 #[.agg #[.slice pa path.length pc, .bool sub], .agg #[.slice pa' path.length pc', .bool sub]] w _
  have hn1 : (sub != sub) = false := by simp
  go_enter Try.func18, Try.ntmps18
  go_wp2_with fail
  generalize hW : (w.alloc (Obj.cells #[.slice pa path.length pc, .bool sub] 35)).alloc (Obj.cells #[.slice pa' path.length pc', .bool sub] 35) = W
  have HW : Hid (Below w.heap.size w W ∧ Blk W w.heap.size #[.slice pa path.length pc, .bool sub] 35 ∧ Blk W (w.heap.size + 1) #[.slice pa' path.length pc', .bool sub] 35) := by
    subst hW
    exact ⟨((Below.refl _ _).alloc (Nat.le_refl _) _).alloc (by simp) _, (Blk.new _ _ _).alloc _, Blk.atn (by simp)⟩
  clear hW
  refine (HC.out W HW.out.1).mono ?_
  rintro e w1 ⟨rfl, hB1⟩
  obtain ⟨hB0, b0, b1⟩ := HW.out
  have HB1 : Hid (Below w.heap.size w w1) := hB0.trans (hB1.mono hB0.size)
  have q0 := b0.below hB1 b0.lt
  have q1 := b1.below hB1 b1.lt
  have x1 := q0.cell 1 _ rfl
  have y1 := q1.cell 1 _ rfl
  clear hB0 b0 b1 hB1 q0 q1 HW HC
  go_wp2_with fail
  go_ret
  exact ⟨rfl, HB1.out⟩

set_option maxHeartbeats 2000000 in
theorem eqMarkS_any (l : List Mk) (v v' : Value) (w : World) (lo hi lo' hi' : Nat) (hv : MksAt w lo hi v l) (hv' : MksAt w lo' hi' v' l) (hhi : hi ≤ w.heap.size) (hhi' : hi' ≤ w.heap.size) :
    Calls Try.prog 8 #[v, v'] w fun e w' => e = .returned (.bool true) ∧ Below w.heap.size w w' := by
  obtain ⟨a, cap, rfl, hl, hc⟩ := hv
  obtain ⟨a', cap', rfl, _, hc'⟩ := hv'
  unfold maxLen at hl
  go_enter Try.func8, Try.ntmps8
  go_wp2
  go_loopw [5] (fun i wr => ∃ (k : Nat), k ≤ l.length ∧ i = .int .i64 k ∧ Hid (Below w.heap.size w wr)) (fun i _ => l.length - (intOf i).toNat)
  case atStart => exact ⟨0, Nat.zero_le _, rfl, Below.refl _ _⟩
  case round =>
    obtain ⟨k, hk, rfl, HB⟩ := hrel
    by_cases hlt : k < l.length
    · obtain ⟨b, o, rfl, hb1, hb2, hcell⟩ := hc (by omega)
      obtain ⟨b', o', rfl, hb1', hb2', hcell'⟩ := hc' (by omega)
      obtain ⟨pa, pc, c0, c1, hr⟩ := hcell k hlt
      obtain ⟨pa', pc', d0, d1, hr'⟩ := hcell' k hlt
      rw [← HB.out.cell (p := ⟨b, _, none⟩) (by show b < w.heap.size; omega)] at c0 c1
      rw [← HB.out.cell (p := ⟨b', _, none⟩) (by show b' < w.heap.size; omega)] at d0 d1
      have hd : (k : Int) < (l.length : Int) := by omega
      have HC : Hid (∀ w1, Below w.heap.size w w1 → Calls Try.prog 18 #[.agg #[.slice pa l[k].path.length pc, .bool l[k].sub], .agg #[.slice pa' l[k].path.length pc', .bool l[k].sub]] w1 fun e w' => e = .returned (.bool true) ∧ Below w.heap.size w w') := fun w1 h1 =>
        (eqMark_any l[k] pa pa' pc pc' w1 lo hi lo' hi' (hr.keep h1 hhi) (hr'.keep h1 hhi') (Nat.le_trans hhi h1.size) (Nat.le_trans hhi' h1.size)).mono fun e w' ⟨h, h2⟩ => ⟨h, h1.trans (h2.mono h1.size)⟩
      clear hc hc' hcell hcell' hr hr'
      go_wp2
      go_region_with (go_at_call 18; refine (HC.out _ (by first | exact HB.out.drew | exact HB.out)).mono ?_; rintro e w1 ⟨rfl, hB1⟩; have HB1 : Hid (Below w.heap.size w w1) := hB1; clear hB1)
      all_goals
        go_wp2
        go_roundw
        case rel => exact ⟨k + 1, by omega, by go_num, HB1⟩
        case measure => simp [intOf]; omega
    · go_wp2
      go_ret
      exact ⟨rfl, HB.out⟩

end Go.Proofs.Ytjnfdjoglmbnoaa
