/- Raw writes: how lists of them lie in memory; what the laws count of them, their copies, their comparison and their marks. -/
import Derived.Test.YtofgadldopaniaaDoorSz
import Derived.Test.YtofgadldopaniaaDoorTo
import Derived.Test.YtofgadldopaniaaDoorEq
import Derived.Test.YtofgadldopaniaaDoorMarkS
import Derived.Deep.RegionWith
namespace Go.Proofs.YtofgadldopaniaaDoor
open Go.RowKit

structure Rw where
  pos : Int
  data : ByteArray
/-- The value is a slice of these writes, two cells each. -/
def RwsAt (w : World) (lo hi : Nat) (v : Value) (l : List Rw) : Prop :=
  ∃ a cap, v = .slice a l.length cap ∧ l.length ≤ maxLen ∧ (∀ (i : Nat) (h : i < l.length), l[i].data.size ≤ maxLen) ∧
    (0 < l.length → ∃ b o, a = some ⟨b, o, none⟩ ∧ lo ≤ b ∧ b < hi ∧ ∀ (i : Nat) (h : i < l.length),
      w.cell? ⟨b, o + i * 2, none⟩ = some (.int .i64 l[i].pos) ∧ w.cell? ⟨b, o + i * 2 + 1, none⟩ = some (.string l[i].data))
theorem RwsAt.keep {w w' : World} {lo hi B : Nat} {v : Value} {l : List Rw} (h : RwsAt w lo hi v l) (hb : Below B w w') (hB : hi ≤ B) : RwsAt w' lo hi v l := by
  obtain ⟨a, cap, hv, hl, hs, hc⟩ := h
  refine ⟨a, cap, hv, hl, hs, fun h0 => ?_⟩
  obtain ⟨b, o, ha, h1, h2, hcell⟩ := hc h0
  refine ⟨b, o, ha, h1, h2, fun i hi => ?_⟩
  obtain ⟨c0, c1⟩ := hcell i hi
  exact ⟨by rw [hb.cell (p := ⟨b, o + i * 2, none⟩) (by show b < B; omega)]; exact c0, by rw [hb.cell (p := ⟨b, o + i * 2 + 1, none⟩) (by show b < B; omega)]; exact c1⟩
theorem RwsAt.same {w w' : World} {lo hi : Nat} {v : Value} {l : List Rw} (h : RwsAt w lo hi v l) (hs : SameIn lo hi w w') : RwsAt w' lo hi v l := by
  obtain ⟨a, cap, hv, hl, hz, hc⟩ := h
  refine ⟨a, cap, hv, hl, hz, fun h0 => ?_⟩
  obtain ⟨b, o, ha, h1, h2, hcell⟩ := hc h0
  refine ⟨b, o, ha, h1, h2, fun i hi => ?_⟩
  obtain ⟨c0, c1⟩ := hcell i hi
  exact ⟨by rw [hs.cell (p := ⟨b, o + i * 2, none⟩) h1 h2]; exact c0, by rw [hs.cell (p := ⟨b, o + i * 2 + 1, none⟩) h1 h2]; exact c1⟩
theorem RwsAt.wide {w : World} {lo hi lo' hi' : Nat} {v : Value} {l : List Rw} (h : RwsAt w lo hi v l) (h1 : lo' ≤ lo) (h2 : hi ≤ hi') : RwsAt w lo' hi' v l := by
  obtain ⟨a, cap, hv, hl, hz, hc⟩ := h
  refine ⟨a, cap, hv, hl, hz, fun h0 => ?_⟩
  obtain ⟨b, o, ha, g1, g2, hcell⟩ := hc h0
  exact ⟨b, o, ha, by omega, by omega, hcell⟩

/-! ### the laws' count -/
def szR (r : Rw) (L : Int) : Int := if L - r.data.size < 0 then -1 else L - r.data.size
theorem szR_le (r : Rw) (L : Int) (h : 0 ≤ L) : szR r L ≤ L := by
  unfold szR
  split <;> omega

theorem szR_len {l : List Rw} {L : Int} (h : 0 ≤ szKids szR l L) : (l.length : Int) ≤ L := by
  rw [szKids] at h
  split at h <;> omega

/-! ### copies -/
def zeroR : Array Value := #[.int .i64 0, .string ⟨#[]⟩]
theorem info_raw : (Tryd.prog.info? 42).map (fun i => (i.zero, i.size, i.bytes)) = some (some (.agg zeroR), 2, 24) := by kernel_rfl
/-- 'make([]T, n)', an element of s cells. -/
theorem run_make_s {P : Program} (t e : TypeId) (z : Array Value) (s bytes : Nat) (ht : P.underlying t = some (.slice e)) (hinfo : (P.info? e).map (fun i => (i.zero, i.size, i.bytes)) = some (some (.agg z), s, bytes))
    (kl kc : IntKind) (n : Nat) (hbytes : bytes * n ≤ 281474976710656) (h63 : n ≤ 9223372036854775807) (w : World) :
    (Instr.makeSlice t (.int kl (n : Int)) (.int kc (n : Int))).run P w = .ok (.slice (some ⟨w.heap.size, 0, none⟩) n n) (w.alloc (.cells (madeCells z (n * s)) e)) := by
  obtain ⟨i, hi, hzz⟩ := Option.map_eq_some_iff.1 hinfo
  simp only [Prod.mk.injEq] at hzz
  obtain ⟨hz, hs, hb⟩ := hzz
  have hb' : (i.bytes : Int) * (n : Int) ≤ 281474976710656 := by
    rw [hb]
    have h : ((bytes * n : Nat) : Int) ≤ 281474976710656 := by omega
    rwa [Int.natCast_mul] at h
  have hr := run_make (P := P) w t e i (.agg z) ht hi hz kl kc n n (by omega) (Int.le_refl _) hb' (by omega)
  simp only [Int.toNat_natCast, hs] at hr
  exact hr

abbrev set2 (w : World) (g o : Nat) (v0 v1 : Value) : World := (w.setCell ⟨g, o, none⟩ v0).setCell ⟨g, o + 1, none⟩ v1
theorem set2_size (w : World) (g o : Nat) (v0 v1 : Value) : (set2 w g o v0 v1).heap.size = w.heap.size := by
  simp [set2, World.setCell]
theorem set2_row {w : World} {g : Nat} {t : TypeId} {n : Nat} {f : Nat → Value} (h : w.rowIs g t n f) (o : Nat) (v0 v1 : Value) :
    (set2 w g o v0 v1).rowIs g t n (fun j => if j = o + 1 then v1 else if j = o then v0 else f j) := (h.set o v0).set (o + 1) v1
theorem set2_below {B : Nat} {w0 w : World} (h : Below B w0 w) {g : Nat} (hg : B ≤ g) (o : Nat) (v0 v1 : Value) : Below B w0 (set2 w g o v0 v1) :=
  (h.setCell (p := ⟨g, o, none⟩) hg v0).setCell (p := ⟨g, o + 1, none⟩) hg v1

/-- A slice of these writes in block b, from its beginning on, that may be written. -/
def OwnRws (w : World) (lo hi b : Nat) (v : Value) (l : List Rw) : Prop :=
  (∃ a cap, v = .slice a l.length cap ∧ l.length ≤ cap ∧ cap ≤ 1048576 ∧ a = some ⟨b, 0, none⟩) ∧ l.length ≤ maxLen ∧ (∀ (i : Nat) (h : i < l.length), l[i].data.size ≤ maxLen) ∧ (0 < l.length → lo ≤ b ∧ b < hi) ∧
    ∀ (i : Nat) (h : i < l.length), w.cell? ⟨b, i * 2, none⟩ = some (.int .i64 l[i].pos) ∧ w.cell? ⟨b, i * 2 + 1, none⟩ = some (.string l[i].data) ∧ w.frozen? ⟨b, i * 2, none⟩ = false ∧ w.frozen? ⟨b, i * 2 + 1, none⟩ = false
theorem OwnRws.rws {w : World} {lo hi b : Nat} {v : Value} {l : List Rw} (h : OwnRws w lo hi b v l) : RwsAt w lo hi v l := by
  obtain ⟨⟨a, cap, hv, _, _, ha⟩, h2, h3, h4, h5⟩ := h
  refine ⟨a, cap, hv, h2, h3, fun h0 => ⟨b, 0, ha, (h4 h0).1, (h4 h0).2, fun i hi => ?_⟩⟩
  simp only [Nat.zero_add]
  exact ⟨(h5 i hi).1, (h5 i hi).2.1⟩
theorem OwnRws.same {w w' : World} {lo hi b : Nat} {v : Value} {l : List Rw} (h : OwnRws w lo hi b v l) (hs : SameIn lo hi w w') : OwnRws w' lo hi b v l := by
  obtain ⟨h1, h2, h3, h4, h5⟩ := h
  refine ⟨h1, h2, h3, h4, fun i hi => ?_⟩
  have hb := h4 (by omega)
  rw [hs.cell (p := ⟨b, i * 2, none⟩) hb.1 hb.2, hs.frozen (p := ⟨b, i * 2, none⟩) hb.1 hb.2, hs.cell (p := ⟨b, i * 2 + 1, none⟩) hb.1 hb.2, hs.frozen (p := ⟨b, i * 2 + 1, none⟩) hb.1 hb.2]
  exact h5 i hi
theorem OwnRws.wide {w : World} {lo hi lo' hi' b : Nat} {v : Value} {l : List Rw} (h : OwnRws w lo hi b v l) (h1 : lo' ≤ lo) (h2 : hi ≤ hi') : OwnRws w lo' hi' b v l := ⟨h.1, h.2.1, h.2.2.1, fun h0 => by have := h.2.2.2.1 h0; omega, h.2.2.2.2⟩

/-- The row behind k rounds. -/
def MadeR (l : List Rw) (g k : Nat) (f : Nat → Value) (wr : World) : Prop :=
  wr.rowIs g 42 (l.length * 2) f ∧ ∀ (i : Nat) (h : i < l.length), i < k → f (i * 2) = .int .i64 l[i].pos ∧ f (i * 2 + 1) = .string l[i].data
theorem MadeR.step {l : List Rw} {g k : Nat} {f : Nat → Value} {wr w1 : World} (h : MadeR l g k f wr) (hk : k < l.length) (hb : Below wr.heap.size wr w1) (hg : g < wr.heap.size) :
    MadeR l g (k + 1) (fun j => if j = k * 2 + 1 then .string l[k].data else if j = k * 2 then .int .i64 l[k].pos else f j) (set2 w1 g (k * 2) (.int .i64 l[k].pos) (.string l[k].data)) := by
  have h1 : w1.rowIs g 42 (l.length * 2) f := by
    obtain ⟨cells, hc1, hc⟩ := h.1
    exact ⟨cells, (hb.block g hg).trans hc1, hc⟩
  refine ⟨set2_row h1 _ _ _, fun i hi hik => ?_⟩
  by_cases e : i = k
  · subst e
    simp
  · dsimp only
    rw [if_neg (by omega), if_neg (by omega), if_neg (by omega), if_neg (by omega)]
    exact h.2 i hi (by omega)

/-! ### comparison -/
set_option maxHeartbeats 1000000 in
theorem eqRaw_any (r : Rw) (w : World) :
    Calls Tryd.prog 23 #[.agg #[.int .i64 r.pos, .string r.data], .agg #[.int .i64 r.pos, .string r.data]] w fun e w' => e = .returned (.bool true) ∧ Below w.heap.size w w' := by
  obtain ⟨at_, data⟩ := r
  show Calls Tryd.prog 23 #[.agg #[.int .i64 at_, .string data], .agg #[.int .i64 at_, .string data]] w _
  have h1 : (at_ != at_) = false := by simp
  go_enter Tryd.func23, Tryd.ntmps23
  go_wp2
  go_ret
  exact ⟨rfl, ((Below.refl _ _).alloc (Nat.le_refl _) _).alloc (by simp) _⟩

set_option maxHeartbeats 2000000 in
theorem eqRawS_any (l : List Rw) (v v' : Value) (w : World) (lo hi lo' hi' : Nat) (hv : RwsAt w lo hi v l) (hv' : RwsAt w lo' hi' v' l) (hhi : hi ≤ w.heap.size) (hhi' : hi' ≤ w.heap.size) :
    Calls Tryd.prog 8 #[v, v'] w fun e w' => e = .returned (.bool true) ∧ Below w.heap.size w w' := by
  obtain ⟨a, cap, rfl, hl, _, hc⟩ := hv
  obtain ⟨a', cap', rfl, _, _, hc'⟩ := hv'
  unfold maxLen at hl
  go_enter Tryd.func8, Tryd.ntmps8
  go_wp2
  go_loopw [5] (fun i wr => ∃ (k : Nat), k ≤ l.length ∧ i = .int .i64 k ∧ Hid (Below w.heap.size w wr)) (fun i _ => l.length - (intOf i).toNat)
  case atStart => exact ⟨0, Nat.zero_le _, rfl, Below.refl _ _⟩
  case round =>
    obtain ⟨k, hk, rfl, HB⟩ := hrel
    by_cases hlt : k < l.length
    · obtain ⟨b, o, rfl, hb1, hb2, hcell⟩ := hc (by omega)
      obtain ⟨b', o', rfl, hb1', hb2', hcell'⟩ := hc' (by omega)
      obtain ⟨c0, c1⟩ := hcell k hlt
      obtain ⟨d0, d1⟩ := hcell' k hlt
      rw [← HB.out.cell (p := ⟨b, _, none⟩) (by show b < w.heap.size; omega)] at c0 c1
      rw [← HB.out.cell (p := ⟨b', _, none⟩) (by show b' < w.heap.size; omega)] at d0 d1
      have hd : (k : Int) < (l.length : Int) := by omega
      clear hc hc' hcell hcell'
      have HC : Hid (∀ w1, Below w.heap.size w w1 → Calls Tryd.prog 23 #[.agg #[.int .i64 l[k].pos, .string l[k].data], .agg #[.int .i64 l[k].pos, .string l[k].data]] w1 fun e w' => e = .returned (.bool true) ∧ Below w.heap.size w w') := fun w1 h1 =>
        (eqRaw_any l[k] w1).mono fun e w' ⟨h, h2⟩ => ⟨h, h1.trans (h2.mono h1.size)⟩
      go_wp2
      go_region_with (go_at_call 23; refine (HC.out _ (by first | exact HB.out.drew | exact HB.out)).mono ?_; rintro e w1 ⟨rfl, hB1⟩; have HB1 : Hid (Below w.heap.size w w1) := hB1; clear hB1)
      all_goals
        go_wp2
        go_roundw
        case rel => exact ⟨k + 1, by omega, by go_num, HB1⟩
        case measure => simp [intOf]; omega
    · go_wp2
      go_ret
      exact ⟨rfl, HB.out⟩

/-! ### marks -/
/-- The first j of them are marked. -/
structure MarkedR (w : World) (lo hi b : Nat) (l : List Rw) (j : Nat) (wr : World) : Prop where
  aside : Aside b w wr
  inr : InR lo hi w wr
  cells : ∀ (i : Nat) (h : i < l.length), j ≤ i → wr.cell? ⟨b, i * 2, none⟩ = some (.int .i64 l[i].pos) ∧ wr.cell? ⟨b, i * 2 + 1, none⟩ = some (.string l[i].data) ∧ wr.frozen? ⟨b, i * 2, none⟩ = false ∧ wr.frozen? ⟨b, i * 2 + 1, none⟩ = false

theorem MarkedR.step {w : World} {lo hi b : Nat} {l : List Rw} {j : Nat} {wr w1 : World} (M : MarkedR w lo hi b l j wr) (hb : b < w.heap.size) (hlo : lo ≤ b ∧ b < hi) (u0 u1 : Value) (hB : Below (wr.setCell ⟨b, j * 2, none⟩ u0).heap.size (wr.setCell ⟨b, j * 2, none⟩ u0) w1) :
    MarkedR w lo hi b l (j + 1) (w1.setCell ⟨b, j * 2 + 1, none⟩ u1) := by
  have hs := M.aside.size
  have hz : (wr.setCell ⟨b, j * 2, none⟩ u0).heap.size = wr.heap.size := by simp [World.setCell]
  refine ⟨((M.aside.set (.inl rfl) _).below hB).set (.inl rfl) _, ((M.inr.set hlo _).below hB).set hlo _, fun i hi hji => ?_⟩
  obtain ⟨c0, c1, f0, f1⟩ := M.cells i hi (by omega)
  have hbs : b < (wr.setCell ⟨b, j * 2, none⟩ u0).heap.size := by omega
  refine ⟨?_, ?_, ?_, ?_⟩
  · rw [World.cell?_setCell_other _ _ _ _ (by intro h; injection h with _ h2 _; omega), hB.cell (p := ⟨b, i * 2, none⟩) hbs, World.cell?_setCell_other _ _ _ _ (by intro h; injection h with _ h2 _; omega)]; exact c0
  · rw [World.cell?_setCell_other _ _ _ _ (by intro h; injection h with _ h2 _; omega), hB.cell (p := ⟨b, i * 2 + 1, none⟩) hbs, World.cell?_setCell_other _ _ _ _ (by intro h; injection h with _ h2 _; omega)]; exact c1
  · rw [World.frozen?_setCell, hB.frozen (p := ⟨b, i * 2, none⟩) hbs, World.frozen?_setCell]; exact f0
  · rw [World.frozen?_setCell, hB.frozen (p := ⟨b, i * 2 + 1, none⟩) hbs, World.frozen?_setCell]; exact f1

set_option maxHeartbeats 1000000 in
theorem markRawS_any (l : List Rw) (v : Value) (b k : Nat) (w : World) (lo hi : Nat) (ho : OwnRws w lo hi b v l) (hhi : hi ≤ w.heap.size) (hk : k + 2 * l.length ≤ 1073741824) :
    Calls Tryd.prog 9 #[v, .int .i64 k] w fun e w' => e = .returned (.int .i64 ((k + 2 * l.length : Nat) : Int)) ∧ InR lo hi w w' := by
  obtain ⟨⟨a, cap, rfl, _, _, ha⟩, hl, _, hblk, hcell⟩ := ho
  have HS : Hid (MarkedR w lo hi b l 0 w) := ⟨Aside.refl _ _, InR.refl _ _ _, fun i h _ => hcell i h⟩
  have HBk := hide hblk
  clear hcell hblk
  unfold maxLen at hl
  go_enter Tryd.func9, Tryd.ntmps9
  go_wp2_with fail
  go_loopw [1, 5] (fun x i wr => ∃ (j kj : Nat), j ≤ l.length ∧ x = .int .i64 (kj : Int) ∧ i = .int .i64 j ∧ Hid (kj = k + 2 * j) ∧ Hid (MarkedR w lo hi b l j wr)) (fun _ i _ => l.length - (intOf i).toNat)
  case atStart => exact ⟨0, k, Nat.zero_le _, rfl, rfl, rfl, HS⟩
  case round =>
    obtain ⟨j, kj, hj, rfl, rfl, HKj, M⟩ := hrel
    by_cases hlt : j < l.length
    · subst ha
      have hb := HBk.out (by omega)
      have hltI : (j : Int) < (l.length : Int) := by omega
      obtain ⟨c0, c1, f0, f1⟩ := M.out.cells j hlt (Nat.le_refl _)
      have hbs : b < wr.heap.size := by have := M.out.aside.size; omega
      have hkb : kj + 2 ≤ 1073741824 := by have := HKj.out; omega
      have C1 := hide c1
      have F1 := hide f1
      clear c1 f1
      go_wp2_with fail
      have hN : ((kj : Int) + 1) = ((kj + 1 : Nat) : Int) := by omega
      rw [hN]
      refine (markText_any (kj + 1) (wr.setCell ⟨b, j * 2, none⟩ (.int .i64 kj)) (by omega) (by omega)).mono ?_
      rintro e w1 ⟨rfl, hB1⟩
      have HB1 := hide hB1
      have hzz : (wr.setCell ⟨b, j * 2, none⟩ (.int .i64 (kj : Int))).heap.size = wr.heap.size := by simp [World.setCell]
      have hc1 : w1.cell? ⟨b, j * 2 + 1, none⟩ = some (.string l[j].data) := (hB1.cell (p := ⟨b, j * 2 + 1, none⟩) (by show b < _; omega)).trans ((World.cell?_setCell_other _ _ _ _ (by intro h; injection h with _ h2 _; omega)).trans C1.out)
      have hf1 : w1.frozen? ⟨b, j * 2 + 1, none⟩ = false := (hB1.frozen (p := ⟨b, j * 2 + 1, none⟩) (by show b < _; omega)).trans ((World.frozen?_setCell _ _ _ _).trans F1.out)
      clear hB1 c0 f0 hzz hN
      go_wp2_with fail
      go_roundw
      case rel => exact ⟨j + 1, kj + 2, by omega, by go_num, by go_num, (by show kj + 2 = _; have := HKj.out; omega), M.out.step (by omega) hb _ _ HB1.out⟩
      case measure => simp [intOf]; omega
    · have e1 : j = l.length := by omega
      subst e1
      have hkj := HKj.out
      subst hkj
      go_wp2_with fail
      go_ret
      exact ⟨rfl, M.out.inr⟩

end Go.Proofs.YtofgadldopaniaaDoor
