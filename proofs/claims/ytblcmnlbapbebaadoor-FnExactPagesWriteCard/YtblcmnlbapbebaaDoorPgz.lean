/- The laws' count and copy of pages and kept names. Written by wip/pgz.py. -/
import Derived.Test.YtblcmnlbapbebaaDoorPgs
import Derived.Test.YtblcmnlbapbebaaDoorSzN
import Derived.Test.YtblcmnlbapbebaaDoorTo
import Derived.Test.YtblcmnlbapbebaaDoorLow
namespace Go.Proofs.YtblcmnlbapbebaaDoor
open Go.RowKit

/-- 'make([]T, n)', an element of s cells. -/
theorem run_make_3 {P : Program} (t e : TypeId) (z : Array Value) (s bytes : Nat) (ht : P.underlying t = some (.slice e)) (hinfo : (P.info? e).map (fun i => (i.zero, i.size, i.bytes)) = some (some (.agg z), s, bytes))
    (kl kc : IntKind) (n : Nat) (hbytes : bytes * n ≤ 281474976710656) (h63 : n ≤ 9223372036854775807) (w : World) :
    (Instr.makeSlice t (.int kl (n : Int)) (.int kc (n : Int))).run P w = .ok (.slice (some ⟨w.heap.size, 0, none⟩) n n) (w.alloc (.cells (madeCells z (n * s)) e)) := by
  obtain ⟨i, hi, hzz⟩ := Option.map_eq_some_iff.1 hinfo
  simp only [Prod.mk.injEq] at hzz
  obtain ⟨hz, hs, hb⟩ := hzz
  have hb' : (i.bytes : Int) * (n : Int) ≤ 281474976710656 := by
    rw [hb]
    have h : ((bytes * n : Nat) : Int) ≤ 281474976710656 := by omega
    rwa [Int.natCast_mul] at h
  have hr := run_make (P := P) w t e i (.agg z) ht hi hz kl kc n n (by omega) (Int.le_refl _) hb' (by omega)
  simp only [Int.toNat_natCast, hs] at hr
  exact hr

/-- The first k records are laid. -/
def MadeC {α : Type} (f : α → V3) (t : TypeId) (l : List α) (g k : Nat) (F : Nat → Value) (wr : World) : Prop :=
  wr.rowIs g t (l.length * 3) F ∧ ∀ (i : Nat) (h : i < l.length), i < k → F (i * 3) = (f l[i]).1 ∧ F (i * 3 + 1) = (f l[i]).2.1 ∧ F (i * 3 + 2) = (f l[i]).2.2
theorem MadeC.step {α : Type} {f : α → V3} {t : TypeId} {l : List α} {g k : Nat} {F : Nat → Value} {wr w1 : World} (h : MadeC f t l g k F wr) (hk : k < l.length) (hb : Below wr.heap.size wr w1) (hg : g < wr.heap.size) :
    MadeC f t l g (k + 1) (fun j => if j = k * 3 + 2 then (f l[k]).2.2 else if j = k * 3 + 1 then (f l[k]).2.1 else if j = k * 3 then (f l[k]).1 else F j) (((w1.setCell ⟨g, k * 3, none⟩ (f l[k]).1).setCell ⟨g, k * 3 + 1, none⟩ (f l[k]).2.1).setCell ⟨g, k * 3 + 2, none⟩ (f l[k]).2.2) := by
  have h1 : w1.rowIs g t (l.length * 3) F := by
    obtain ⟨cells, hc1, hc⟩ := h.1
    exact ⟨cells, (hb.block g hg).trans hc1, hc⟩
  refine ⟨((h1.set (k * 3) _).set (k * 3 + 1) _).set (k * 3 + 2) _, fun i hi hik => ?_⟩
  by_cases e : i = k
  · subst e
    simp
  · dsimp only
    rw [if_neg (by omega), if_neg (by omega), if_neg (by omega), if_neg (by omega), if_neg (by omega), if_neg (by omega), if_neg (by omega), if_neg (by omega), if_neg (by omega)]
    exact h.2 i hi (by omega)
theorem set3_below {B : Nat} {w0 w : World} (h : Below B w0 w) {g : Nat} (hg : B ≤ g) (o : Nat) (v0 v1 v2 : Value) : Below B w0 (((w.setCell ⟨g, o, none⟩ v0).setCell ⟨g, o + 1, none⟩ v1).setCell ⟨g, o + 2, none⟩ v2) :=
  ((h.setCell (p := ⟨g, o, none⟩) hg v0).setCell (p := ⟨g, o + 1, none⟩) hg v1).setCell (p := ⟨g, o + 2, none⟩) hg v2


def szPg (r : Pg) (L : Int) : Int := if L - r.data.size < 0 then -1 else L - r.data.size
theorem szPg_le (r : Pg) (L : Int) : 0 ≤ L → szPg r L ≤ L := by
  intro h
  unfold szPg
  split <;> omega
theorem szPg_len {l : List Pg} {L : Int} (h : 0 ≤ szKids szPg l L) : (l.length : Int) ≤ L := by
  rw [szKids] at h
  split at h <;> omega

set_option maxHeartbeats 1000000 in
theorem szPage_any (r : Pg) (left : Int) (w : World) (hs : r.data.size ≤ maxLen) (h0 : 0 ≤ left) (h1 : left ≤ 1048576) :
    Calls Tryd.prog 21 #[.agg #[.bool r.used, .string r.data, .int .i64 r.next], .int .i64 left] w fun e w' => e = .returned (.int .i64 (szPg r left)) ∧ Below w.heap.size w w' := by
  obtain ⟨used, data, next⟩ := r
  have hs : data.size ≤ maxLen := hs
  unfold maxLen at hs
  have HD : Hid (szPg ⟨used, data, next⟩ left = if left - data.size < 0 then -1 else left - data.size) := rfl
  show Calls Tryd.prog 21 #[.agg #[.bool used, .string data, .int .i64 next], .int .i64 left] w _
  generalize szPg ⟨used, data, next⟩ left = res at HD ⊢
  have HA : Hid (∀ o, Below w.heap.size w (w.alloc o)) := fun o => (Below.refl _ _).alloc (Nat.le_refl _) o
  by_cases hn : left - data.size < 0
  · have hr := HD.out
    rw [if_pos hn] at hr
    subst hr
    clear HD
    go_enter Tryd.func21, Tryd.ntmps21
    go_wp2
    go_ret
    exact ⟨rfl, HA.out _⟩
  · have hr := HD.out
    rw [if_neg hn] at hr
    subst hr
    clear HD
    go_enter Tryd.func21, Tryd.ntmps21
    go_wp2
    go_ret
    exact ⟨rfl, HA.out _⟩

set_option maxHeartbeats 1000000 in
theorem szPageS_any (l : List Pg) (v : Value) (left : Int) (w : World) (lo hi : Nat) (hv : RcsAt fPg w lo hi v l) (hsz : ∀ (i : Nat) (h : i < l.length), l[i].data.size ≤ maxLen) (hhi : hi ≤ w.heap.size) (h0 : 0 ≤ left) (h1 : left ≤ 1048576) :
    Calls Tryd.prog 9 #[v, .int .i64 left] w fun e w' => e = .returned (.int .i64 (szKids szPg l left)) ∧ Below w.heap.size w w' := by
  obtain ⟨a, cap, rfl, hl, hc⟩ := hv
  have HSz := hide hsz
  clear hsz
  unfold maxLen at hl
  by_cases hneg : left - l.length < 0
  · go_enter Tryd.func9, Tryd.ntmps9
    go_wp2
    go_ret
    exact ⟨by rw [szKids, if_pos hneg]; rfl, Below.refl _ _⟩
  · have HF : Hid (szKids szPg l left = szKidsLoop szPg (l.drop 0) (left - l.length)) := by show _ = _; rw [szKids, if_neg hneg]; rfl
    go_enter Tryd.func9, Tryd.ntmps9
    go_wp2
    go_loopw [1, 5] (fun x i wr => ∃ (k : Nat) (L : Int), k ≤ l.length ∧ i = .int .i64 k ∧ x = .int .i64 L ∧ 0 ≤ L ∧ L ≤ 1048576 ∧ Hid (szKids szPg l left = szKidsLoop szPg (l.drop k) L) ∧ Hid (Below w.heap.size w wr)) (fun _ i _ => l.length - (intOf i).toNat)
    case atStart => exact ⟨0, _, Nat.zero_le _, rfl, rfl, by omega, by omega, HF, Below.refl _ _⟩
    case round =>
      obtain ⟨k, L, hk, rfl, rfl, hL0, hL1, HK, HB⟩ := hrel
      clear HF
      by_cases hlt : k < l.length
      · obtain ⟨b, o, rfl, hb1, hb2, hcell⟩ := hc (by omega)
        obtain ⟨c0, c1, c2⟩ := hcell k hlt
        rw [← HB.out.cell (p := ⟨b, _, none⟩) (by show b < w.heap.size; omega)] at c0 c1 c2
        simp only [fPg] at c0 c1 c2
        have HE : Hid (szKidsLoop szPg (l.drop k) L = if szPg l[k] L < 0 then -1 else szKidsLoop szPg (l.drop (k + 1)) (szPg l[k] L)) := szKidsLoop_drop szPg l k hlt L
        have hle := szPg_le l[k] L hL0
        clear hc hcell
        go_wp2_with fail
        refine (szPage_any l[k] L wr (HSz.out k hlt) hL0 hL1).mono ?_
        rintro e w1 ⟨rfl, hB1⟩
        have HB1 : Hid (Below w.heap.size w w1) := HB.out.trans (hB1.mono HB.out.size)
        clear hB1
        by_cases hn : szPg l[k] L < 0
        · go_wp2_with fail
          go_ret
          refine ⟨ret_int ?_, HB1.out⟩
          rw [HK.out, HE.out, if_pos hn]
        · go_wp2_with fail
          go_roundw
          case rel => exact ⟨k + 1, _, by omega, by go_num, rfl, by omega, by omega, by show _ = _; rw [HK.out, HE.out, if_neg (by omega)], HB1⟩
          case measure => simp [intOf]; omega
      · go_wp2
        go_ret
        refine ⟨ret_int ?_, HB.out⟩
        rw [HK.out, List.drop_eq_nil_of_le (by omega), szKidsLoop]

def zPg : Array Value := #[.bool false, .string ⟨#[]⟩, .int .i64 0]
theorem info_zPg : (Tryd.prog.info? 64).map (fun i => (i.zero, i.size, i.bytes)) = some (some (.agg zPg), 3, 32) := by kernel_rfl

set_option maxHeartbeats 1000000 in
theorem toPage_any (r : Pg) (w : World) :
    Calls Tryd.prog 26 #[.agg #[.bool r.used, .string r.data, .int .i64 r.next]] w fun e w' => e = .returned (.agg #[.bool r.used, .string r.data, .int .i64 r.next]) ∧ Below w.heap.size w w' := by
  obtain ⟨used, data, next⟩ := r
  show Calls Tryd.prog 26 #[.agg #[.bool used, .string data, .int .i64 next]] w _
  go_enter Tryd.func26, Tryd.ntmps26
  go_wp2
  refine bodyPost_ret (v := .agg #[.bool used, .string data, .int .i64 next]) (by simp [results, Tryd.results26, go_sem]) rfl ⟨rfl, ?_⟩
  exact (((Below.refl _ _).alloc (Nat.le_refl _) _).alloc (by simp) _).alloc (by simp; omega) _

set_option maxHeartbeats 1000000 in
theorem toPageS_any (l : List Pg) (v : Value) (w : World) (lo hi : Nat) (hv : RcsAt fPg w lo hi v l) (hhi : hi ≤ w.heap.size) (hl : l.length ≤ 1048576) :
    Calls Tryd.prog 14 #[v] w fun e w' => ∃ a c, e = .returned (.slice a l.length c) ∧ OwnRcs fPg w' w.heap.size w'.heap.size w.heap.size (.slice a l.length c) l ∧ Below w.heap.size w w' ∧ w.heap.size < w'.heap.size := by
  obtain ⟨a, cap, rfl, _, hc⟩ := hv
  have hmk := run_make_3 (P := Tryd.prog) 28 64 zPg 3 32 Tryd.underlying28 info_zPg .i64 .i64 l.length (by omega) (by omega)
  go_enter Tryd.func14, Tryd.ntmps14
  go_wp2
  go_loopw [4] (fun i wr => ∃ (k : Nat) (F : Nat → Value), k ≤ l.length ∧ i = .int .i64 k ∧ Hid (Below w.heap.size w wr) ∧ Hid (MadeC fPg 64 l w.heap.size k F wr)) (fun i _ => l.length - (intOf i).toNat)
  case atStart =>
    exact ⟨0, _, Nat.zero_le _, rfl, (Below.refl _ _).alloc (Nat.le_refl _) _, rowIs_made_any w zPg (l.length * 3) 64, fun i _ h => by omega⟩
  case round =>
    obtain ⟨k, F, hk, rfl, HB, HM⟩ := hrel
    by_cases hlt : k < l.length
    · obtain ⟨b, o, rfl, hb1, hb2, hcell⟩ := hc (by omega)
      obtain ⟨c0, c1, c2⟩ := hcell k hlt
      rw [← HB.out.cell (p := ⟨b, _, none⟩) (by show b < w.heap.size; omega)] at c0 c1 c2
      simp only [fPg] at c0 c1 c2
      clear hc hcell hmk
      go_wp2_with fail
      refine (toPage_any l[k] wr).mono ?_
      rintro e1 w1 ⟨rfl, hB1⟩
      have HB1 : Hid (Below wr.heap.size wr w1) := hB1
      clear hB1
      have HG : Hid (w.heap.size < wr.heap.size) := HM.out.1.lt
      have hcw : ∀ j, j < 3 → w1.cell? ⟨w.heap.size, k * 3 + j, none⟩ = some (F (k * 3 + j)) := fun j hj => by
        rw [HB1.out.cell (p := ⟨w.heap.size, _, none⟩) HG.out]; exact HM.out.1.cell (by omega)
      have hfw : ∀ j, w1.frozen? ⟨w.heap.size, k * 3 + j, none⟩ = false := fun j => by
        rw [HB1.out.frozen (p := ⟨w.heap.size, _, none⟩) HG.out]; exact HM.out.1.frozen _
      have d0 := hcw 0 (by omega)
      have d1 := hcw 1 (by omega)
      have d2 := hcw 2 (by omega)
      have f0 := hfw 0
      have f1 := hfw 1
      have f2 := hfw 2
      simp only [Nat.add_zero] at d0 f0
      clear hcw hfw
      go_wp2_with fail
      go_roundw
      case rel => exact ⟨k + 1, _, by omega, by go_num, set3_below (HB.out.trans (HB1.out.mono HB.out.size)) (Nat.le_refl _) _ _ _ _, HM.out.step hlt HB1.out HG.out⟩
      case measure => simp [intOf]; omega
    · go_wp2
      go_ret
      refine ⟨_, _, rfl, ⟨⟨_, _, rfl, fun _ => rfl⟩, by unfold maxLen; omega, fun _ => ⟨Nat.le_refl _, HM.out.1.lt⟩, fun i hi => ?_⟩, HB.out, HM.out.1.lt⟩
      obtain ⟨e0, e1, e2⟩ := HM.out.2 i hi (by omega)
      exact ⟨⟨by rw [HM.out.1.cell (by omega), e0], by rw [HM.out.1.cell (by omega), e1], by rw [HM.out.1.cell (by omega), e2]⟩, fun j => HM.out.1.frozen _⟩


def szPn (r : Pn) (L : Int) : Int := if L - r.name.size < 0 then -1 else L - r.name.size
theorem szPn_le (r : Pn) (L : Int) : 0 ≤ L → szPn r L ≤ L := by
  intro h
  unfold szPn
  split <;> omega
theorem szPn_len {l : List Pn} {L : Int} (h : 0 ≤ szKids szPn l L) : (l.length : Int) ≤ L := by
  rw [szKids] at h
  split at h <;> omega

set_option maxHeartbeats 1000000 in
theorem szPageName_any (r : Pn) (left : Int) (w : World) (hs : r.name.size ≤ maxLen) (h0 : 0 ≤ left) (h1 : left ≤ 1048576) :
    Calls Tryd.prog 22 #[.agg #[.string r.name, .int .i64 r.first, .int .i64 r.size], .int .i64 left] w fun e w' => e = .returned (.int .i64 (szPn r left)) ∧ Below w.heap.size w w' := by
  obtain ⟨name, first, size⟩ := r
  have hs : name.size ≤ maxLen := hs
  unfold maxLen at hs
  have HD : Hid (szPn ⟨name, first, size⟩ left = if left - name.size < 0 then -1 else left - name.size) := rfl
  show Calls Tryd.prog 22 #[.agg #[.string name, .int .i64 first, .int .i64 size], .int .i64 left] w _
  generalize szPn ⟨name, first, size⟩ left = res at HD ⊢
  have HA : Hid (∀ o, Below w.heap.size w (w.alloc o)) := fun o => (Below.refl _ _).alloc (Nat.le_refl _) o
  by_cases hn : left - name.size < 0
  · have hr := HD.out
    rw [if_pos hn] at hr
    subst hr
    clear HD
    go_enter Tryd.func22, Tryd.ntmps22
    go_wp2
    go_ret
    exact ⟨rfl, HA.out _⟩
  · have hr := HD.out
    rw [if_neg hn] at hr
    subst hr
    clear HD
    go_enter Tryd.func22, Tryd.ntmps22
    go_wp2
    go_ret
    exact ⟨rfl, HA.out _⟩

set_option maxHeartbeats 1000000 in
theorem szPageNameS_any (l : List Pn) (v : Value) (left : Int) (w : World) (lo hi : Nat) (hv : RcsAt fPn w lo hi v l) (hsz : ∀ (i : Nat) (h : i < l.length), l[i].name.size ≤ maxLen) (hhi : hi ≤ w.heap.size) (h0 : 0 ≤ left) (h1 : left ≤ 1048576) :
    Calls Tryd.prog 10 #[v, .int .i64 left] w fun e w' => e = .returned (.int .i64 (szKids szPn l left)) ∧ Below w.heap.size w w' := by
  obtain ⟨a, cap, rfl, hl, hc⟩ := hv
  have HSz := hide hsz
  clear hsz
  unfold maxLen at hl
  by_cases hneg : left - l.length < 0
  · go_enter Tryd.func10, Tryd.ntmps10
    go_wp2
    go_ret
    exact ⟨by rw [szKids, if_pos hneg]; rfl, Below.refl _ _⟩
  · have HF : Hid (szKids szPn l left = szKidsLoop szPn (l.drop 0) (left - l.length)) := by show _ = _; rw [szKids, if_neg hneg]; rfl
    go_enter Tryd.func10, Tryd.ntmps10
    go_wp2
    go_loopw [1, 5] (fun x i wr => ∃ (k : Nat) (L : Int), k ≤ l.length ∧ i = .int .i64 k ∧ x = .int .i64 L ∧ 0 ≤ L ∧ L ≤ 1048576 ∧ Hid (szKids szPn l left = szKidsLoop szPn (l.drop k) L) ∧ Hid (Below w.heap.size w wr)) (fun _ i _ => l.length - (intOf i).toNat)
    case atStart => exact ⟨0, _, Nat.zero_le _, rfl, rfl, by omega, by omega, HF, Below.refl _ _⟩
    case round =>
      obtain ⟨k, L, hk, rfl, rfl, hL0, hL1, HK, HB⟩ := hrel
      clear HF
      by_cases hlt : k < l.length
      · obtain ⟨b, o, rfl, hb1, hb2, hcell⟩ := hc (by omega)
        obtain ⟨c0, c1, c2⟩ := hcell k hlt
        rw [← HB.out.cell (p := ⟨b, _, none⟩) (by show b < w.heap.size; omega)] at c0 c1 c2
        simp only [fPn] at c0 c1 c2
        have HE : Hid (szKidsLoop szPn (l.drop k) L = if szPn l[k] L < 0 then -1 else szKidsLoop szPn (l.drop (k + 1)) (szPn l[k] L)) := szKidsLoop_drop szPn l k hlt L
        have hle := szPn_le l[k] L hL0
        clear hc hcell
        go_wp2_with fail
        refine (szPageName_any l[k] L wr (HSz.out k hlt) hL0 hL1).mono ?_
        rintro e w1 ⟨rfl, hB1⟩
        have HB1 : Hid (Below w.heap.size w w1) := HB.out.trans (hB1.mono HB.out.size)
        clear hB1
        by_cases hn : szPn l[k] L < 0
        · go_wp2_with fail
          go_ret
          refine ⟨ret_int ?_, HB1.out⟩
          rw [HK.out, HE.out, if_pos hn]
        · go_wp2_with fail
          go_roundw
          case rel => exact ⟨k + 1, _, by omega, by go_num, rfl, by omega, by omega, by show _ = _; rw [HK.out, HE.out, if_neg (by omega)], HB1⟩
          case measure => simp [intOf]; omega
      · go_wp2
        go_ret
        refine ⟨ret_int ?_, HB.out⟩
        rw [HK.out, List.drop_eq_nil_of_le (by omega), szKidsLoop]

def zPn : Array Value := #[.string ⟨#[]⟩, .int .i64 0, .int .i64 0]
theorem info_zPn : (Tryd.prog.info? 40).map (fun i => (i.zero, i.size, i.bytes)) = some (some (.agg zPn), 3, 32) := by kernel_rfl

set_option maxHeartbeats 1000000 in
theorem toPageName_any (r : Pn) (w : World) :
    Calls Tryd.prog 27 #[.agg #[.string r.name, .int .i64 r.first, .int .i64 r.size]] w fun e w' => e = .returned (.agg #[.string r.name, .int .i64 r.first, .int .i64 r.size]) ∧ Below w.heap.size w w' := by
  obtain ⟨name, first, size⟩ := r
  show Calls Tryd.prog 27 #[.agg #[.string name, .int .i64 first, .int .i64 size]] w _
  go_enter Tryd.func27, Tryd.ntmps27
  go_wp2
  refine bodyPost_ret (v := .agg #[.string name, .int .i64 first, .int .i64 size]) (by simp [results, Tryd.results27, go_sem]) rfl ⟨rfl, ?_⟩
  exact (((Below.refl _ _).alloc (Nat.le_refl _) _).alloc (by simp) _).alloc (by simp; omega) _

set_option maxHeartbeats 1000000 in
theorem toPageNameS_any (l : List Pn) (v : Value) (w : World) (lo hi : Nat) (hv : RcsAt fPn w lo hi v l) (hhi : hi ≤ w.heap.size) (hl : l.length ≤ 1048576) :
    Calls Tryd.prog 15 #[v] w fun e w' => ∃ a c, e = .returned (.slice a l.length c) ∧ OwnRcs fPn w' w.heap.size w'.heap.size w.heap.size (.slice a l.length c) l ∧ Below w.heap.size w w' ∧ w.heap.size < w'.heap.size := by
  obtain ⟨a, cap, rfl, _, hc⟩ := hv
  have hmk := run_make_3 (P := Tryd.prog) 29 40 zPn 3 32 Tryd.underlying29 info_zPn .i64 .i64 l.length (by omega) (by omega)
  go_enter Tryd.func15, Tryd.ntmps15
  go_wp2
  go_loopw [4] (fun i wr => ∃ (k : Nat) (F : Nat → Value), k ≤ l.length ∧ i = .int .i64 k ∧ Hid (Below w.heap.size w wr) ∧ Hid (MadeC fPn 40 l w.heap.size k F wr)) (fun i _ => l.length - (intOf i).toNat)
  case atStart =>
    exact ⟨0, _, Nat.zero_le _, rfl, (Below.refl _ _).alloc (Nat.le_refl _) _, rowIs_made_any w zPn (l.length * 3) 40, fun i _ h => by omega⟩
  case round =>
    obtain ⟨k, F, hk, rfl, HB, HM⟩ := hrel
    by_cases hlt : k < l.length
    · obtain ⟨b, o, rfl, hb1, hb2, hcell⟩ := hc (by omega)
      obtain ⟨c0, c1, c2⟩ := hcell k hlt
      rw [← HB.out.cell (p := ⟨b, _, none⟩) (by show b < w.heap.size; omega)] at c0 c1 c2
      simp only [fPn] at c0 c1 c2
      clear hc hcell hmk
      go_wp2_with fail
      refine (toPageName_any l[k] wr).mono ?_
      rintro e1 w1 ⟨rfl, hB1⟩
      have HB1 : Hid (Below wr.heap.size wr w1) := hB1
      clear hB1
      have HG : Hid (w.heap.size < wr.heap.size) := HM.out.1.lt
      have hcw : ∀ j, j < 3 → w1.cell? ⟨w.heap.size, k * 3 + j, none⟩ = some (F (k * 3 + j)) := fun j hj => by
        rw [HB1.out.cell (p := ⟨w.heap.size, _, none⟩) HG.out]; exact HM.out.1.cell (by omega)
      have hfw : ∀ j, w1.frozen? ⟨w.heap.size, k * 3 + j, none⟩ = false := fun j => by
        rw [HB1.out.frozen (p := ⟨w.heap.size, _, none⟩) HG.out]; exact HM.out.1.frozen _
      have d0 := hcw 0 (by omega)
      have d1 := hcw 1 (by omega)
      have d2 := hcw 2 (by omega)
      have f0 := hfw 0
      have f1 := hfw 1
      have f2 := hfw 2
      simp only [Nat.add_zero] at d0 f0
      clear hcw hfw
      go_wp2_with fail
      go_roundw
      case rel => exact ⟨k + 1, _, by omega, by go_num, set3_below (HB.out.trans (HB1.out.mono HB.out.size)) (Nat.le_refl _) _ _ _ _, HM.out.step hlt HB1.out HG.out⟩
      case measure => simp [intOf]; omega
    · go_wp2
      go_ret
      refine ⟨_, _, rfl, ⟨⟨_, _, rfl, fun _ => rfl⟩, by unfold maxLen; omega, fun _ => ⟨Nat.le_refl _, HM.out.1.lt⟩, fun i hi => ?_⟩, HB.out, HM.out.1.lt⟩
      obtain ⟨e0, e1, e2⟩ := HM.out.2 i hi (by omega)
      exact ⟨⟨by rw [HM.out.1.cell (by omega), e0], by rw [HM.out.1.cell (by omega), e1], by rw [HM.out.1.cell (by omega), e2]⟩, fun j => HM.out.1.frozen _⟩


end Go.Proofs.YtblcmnlbapbebaaDoor
