/- Marks of trails: how lists of them lie in memory; the laws' own comparison, marks and what they hold. -/
import Derived.Test.YtdonbgedhikocaaDoorMk0
import Derived.Test.YtdonbgedhikocaaDoorMarkT
import Derived.Test.YtdonbgedhikocaaDoorHeld
namespace Go.Proofs.YtdonbgedhikocaaDoor
open Go.RowKit

def gM (m : Mk) (k : Nat) : Mk := ⟨markL k m.path, (k + m.path.length) % 3 == 0⟩
def cM (m : Mk) : Nat := m.path.length + 1
/-- A slice of marks in block bk, each path in a block of its own. -/
def OwnMks (w : World) (lo hi bk : Nat) (bs : Nat → Nat) (v : Value) (l : List Mk) : Prop :=
  (∃ a cap, v = .slice a l.length cap ∧ (0 < l.length → a = some ⟨bk, 0, none⟩)) ∧ l.length ≤ maxLen ∧ (0 < l.length → lo ≤ bk ∧ bk < hi) ∧
    ∀ (i : Nat) (h : i < l.length), (bs i ≠ bk ∧ ∀ j, j < l.length → j ≠ i → bs j ≠ bs i) ∧ ∃ pa pc, w.cell? ⟨bk, i * 2, none⟩ = some (.slice pa l[i].path.length pc) ∧ w.cell? ⟨bk, i * 2 + 1, none⟩ = some (.bool l[i].sub) ∧ w.frozen? ⟨bk, i * 2 + 1, none⟩ = false ∧
      OwnStrs w lo hi (bs i) (.slice pa l[i].path.length pc) l[i].path
theorem OwnMks.mks {w : World} {lo hi bk : Nat} {bs : Nat → Nat} {v : Value} {l : List Mk} (h : OwnMks w lo hi bk bs v l) : MksAt w lo hi v l := by
  obtain ⟨⟨a, cap, hv, ha⟩, hl, hb, hc⟩ := h
  refine ⟨a, cap, hv, hl, fun h0 => ⟨bk, 0, ha h0, (hb h0).1, (hb h0).2, fun i hi => ?_⟩⟩
  obtain ⟨_, pa, pc, c0, c1, _, hO⟩ := hc i hi
  rw [Nat.zero_add]
  exact ⟨pa, pc, c0, c1, hO.strs⟩
theorem OwnMks.same {w w' : World} {lo hi bk : Nat} {bs : Nat → Nat} {v : Value} {l : List Mk} (h : OwnMks w lo hi bk bs v l) (hs : SameIn lo hi w w') : OwnMks w' lo hi bk bs v l := by
  obtain ⟨hv, hl, hb, hc⟩ := h
  refine ⟨hv, hl, hb, fun i hi => ?_⟩
  obtain ⟨hx, pa, pc, c0, c1, f1, hO⟩ := hc i hi
  have hbk := hb (by omega)
  have hk : w'.heap[bk]? = w.heap[bk]? := hs bk hbk.1 hbk.2
  exact ⟨hx, pa, pc, by rw [World.cell?_of_block (w := w) hk]; exact c0, by rw [World.cell?_of_block (w := w) hk]; exact c1, by rw [World.frozen?_of_block (w := w) hk]; exact f1, hO.same hs⟩
theorem OwnMks.step {w w1 : World} {lo hi bk : Nat} {bs : Nat → Nat} {v : Value} {l : List Mk} (h : OwnMks w lo hi bk bs v l) {j : Nat} (hj : j < l.length) {np : List ByteArray} (nb : Bool) (hnp : np.length = l[j].path.length) (hhi : hi ≤ w.heap.size)
    (ha : Aside (bs j) w w1) {pa : Option Addr} {pc : Nat} (hpv : w.cell? ⟨bk, j * 2, none⟩ = some (.slice pa l[j].path.length pc)) (hO : OwnStrs w1 lo hi (bs j) (.slice pa l[j].path.length pc) np) :
    OwnMks (w1.setCell ⟨bk, j * 2 + 1, none⟩ (.bool nb)) lo hi bk bs v (l.set j ⟨np, nb⟩) := by
  obtain ⟨hv, hl, hb, hc⟩ := h
  have hbk := hb (by omega)
  have hlt : bk < w.heap.size := by omega
  have hjj := hc j hj
  have h1 : w1.heap[bk]? = w.heap[bk]? := ha.block bk hlt (fun e => hjj.1.1 e.symm)
  refine ⟨by rw [List.length_set]; exact hv, by rw [List.length_set]; exact hl, fun _ => hbk, fun i hi' => ?_⟩
  rw [List.length_set] at hi' ⊢
  obtain ⟨hx, pa', pc', c0, c1, f1, hOi⟩ := hc i hi'
  refine ⟨hx, ?_⟩
  by_cases e : i = j
  · subst e
    rw [hpv] at c0
    simp only [Option.some.injEq, Value.slice.injEq, true_and] at c0
    obtain ⟨rfl, rfl⟩ := c0
    simp only [List.getElem_set_self]
    refine ⟨pa, pc, ?_, ?_, ?_, ?_⟩
    · rw [World.cell?_setCell_other _ _ _ _ (by intro h; injection h with _ h2 _; omega), World.cell?_of_block (w := w) h1, hpv, hnp]
    · have hsome : w1.cell? ⟨bk, i * 2 + 1, none⟩ = some (.bool l[i].sub) := by rw [World.cell?_of_block (w := w) h1]; exact c1
      rw [World.cell?_setCell_same' _ _ _ (by rw [hsome]; rfl)]
    · rw [World.frozen?_setCell, World.frozen?_of_block (w := w) h1]; exact f1
    · rw [hnp]
      exact ownStrs_blk hO fun _ => Below.heap_setCell _ _ _ _ (by show bs i ≠ bk; exact hx.1)
  · simp only [List.getElem_set_ne (fun h => e h.symm)]
    refine ⟨pa', pc', ?_, ?_, ?_, ?_⟩
    · rw [World.cell?_setCell_other _ _ _ _ (by intro h; injection h with _ h2 _; omega), World.cell?_of_block (w := w) h1]; exact c0
    · rw [World.cell?_setCell_other _ _ _ _ (by intro h; injection h with _ h2 _; omega), World.cell?_of_block (w := w) h1]; exact c1
    · rw [World.frozen?_setCell, World.frozen?_of_block (w := w) h1]; exact f1
    · refine ownStrs_blk hOi fun h0 => ?_
      have hbi : bs i < w.heap.size := by have := hOi.2.2.2.1 h0; omega
      rw [Below.heap_setCell _ _ _ _ (by show bs i ≠ bk; exact hx.1), ha.block _ hbi (fun e2 => hx.2 j hj (fun e3 => e e3.symm) e2.symm)]

set_option maxHeartbeats 2000000 in
theorem markMarkS_any (l : List Mk) (v : Value) (bk k : Nat) (bs : Nat → Nat) (w : World) (lo hi : Nat) (hO : OwnMks w lo hi bk bs v l) (hhi : hi ≤ w.heap.size) (hk0 : 0 < k) (hk : k + (l.map cM).sum ≤ 1073741824) :
    Calls Tryd.prog 7 #[v, .int .i64 k] w fun e w' => e = .returned (.int .i64 ((k + (l.map cM).sum : Nat) : Int)) ∧ OwnMks w' lo hi bk bs v (markK gM cM l k) ∧ InR lo hi w w' := by
  obtain ⟨a, cap, rfl, ha⟩ : ∃ a cap, v = .slice a l.length cap ∧ (0 < l.length → a = some ⟨bk, 0, none⟩) := hO.1
  have hl : l.length ≤ 9223372036854775807 := hO.2.1
  have HB := hide hO.2.2.1
  have HO := hide hO
  clear hO
  generalize hres : k + (l.map cM).sum = kend
  have HEnd := hide hres
  rw [hres] at hk
  clear hres
  go_enter Tryd.func7, Tryd.ntmps7
  go_wp2_with fail
  go_loopw [1, 5] (fun x i wr => ∃ (j kj : Nat), j ≤ l.length ∧ x = .int .i64 (kj : Int) ∧ i = .int .i64 j ∧ Hid (kj = k + ((l.take j).map cM).sum) ∧ Hid (OwnMks wr lo hi bk bs (.slice a l.length cap) (mixK gM cM l k j) ∧ InR lo hi w wr)) (fun _ i _ => l.length - (intOf i).toNat)
  case atStart => exact ⟨0, k, Nat.zero_le _, rfl, rfl, (by simp : k = k + ((l.take 0).map cM).sum), by rw [mixK_zero]; exact HO.out, InR.refl _ _ _⟩
  case round =>
    obtain ⟨j, kj, hj, rfl, rfl, HKj, HR⟩ := hrel
    by_cases hlt : j < l.length
    · have ha' := ha (by omega)
      subst ha'
      have hb := HB.out (by omega)
      have hltI : (j : Int) < (l.length : Int) := by omega
      have hj' : j < (mixK gM cM l k j).length := by rw [mixK_length]; exact hlt
      obtain ⟨hx, pa, pc, c0, c1, f1, hOj⟩ := HR.out.1.2.2.2 j hj'
      rw [mixK_at gM cM l k j hlt] at c0 c1 hOj
      have hsm1 := sum_drop cM l j hlt
      have hsm2 := sum_take_le cM l (j + 1)
      have hcn : cM l[j] = l[j].path.length + 1 := rfl
      have hkj := HKj.out
      have hend := HEnd.out
      have hbound : kj + cM l[j] ≤ 1073741824 := by omega
      have hkj0 : 0 < kj := by omega
      have HN : Hid (kj + l[j].path.length + 1 = k + ((l.take (j + 1)).map cM).sum) := by
        show _ = _
        omega
      clear hsm1 hsm2 hkj hend
      have HOj := hide hOj
      have hbs : bk < wr.heap.size := by have := HR.out.2.size; omega
      have HMS := hide (markStringS_any l[j].path _ (bs j) kj wr lo hi HOj.out (Nat.le_trans hhi HR.out.2.size) hkj0 (by omega))
      have HX := hide hx
      have HC0 : Hid (wr.cell? ⟨bk, j * 2, none⟩ = some (.slice pa l[j].path.length pc)) := c0
      have HC1 : Hid (wr.cell? ⟨bk, j * 2 + 1, none⟩ = some (.bool l[j].sub) ∧ wr.frozen? ⟨bk, j * 2 + 1, none⟩ = false) := ⟨c1, f1⟩
      clear hOj hx c1 f1 hj'
      go_wp2_with fail
      refine HMS.out.mono ?_
      rintro e w1 ⟨rfl, hO1, hI1, hA1⟩
      have hblk : w1.heap[bk]? = wr.heap[bk]? := hA1.block bk hbs (fun e => HX.out.1 e.symm)
      have d1 : w1.cell? ⟨bk, j * 2 + 1, none⟩ = some (.bool l[j].sub) := by rw [World.cell?_of_block (w := wr) hblk]; exact HC1.out.1
      have g1 : w1.frozen? ⟨bk, j * 2 + 1, none⟩ = false := by rw [World.frozen?_of_block (w := wr) hblk]; exact HC1.out.2
      have HW : Hid (OwnMks (w1.setCell ⟨bk, j * 2 + 1, none⟩ (.bool (((kj + l[j].path.length : Nat) : Int) % 3 == 0))) lo hi bk bs (.slice (some ⟨bk, 0, none⟩) l.length cap) (mixK gM cM l k (j + 1)) ∧ InR lo hi w (w1.setCell ⟨bk, j * 2 + 1, none⟩ (.bool (((kj + l[j].path.length : Nat) : Int) % 3 == 0)))) := by
        have hat := mixK_at gM cM l k j hlt (by rw [mixK_length]; exact hlt)
        refine ⟨?_, (HR.out.2.trans hI1).set ⟨hb.1, hb.2⟩ _⟩
        rw [mixK_succ gM cM l k j hlt, ← HKj.out, mod3]
        exact OwnMks.step HR.out.1 (by rw [mixK_length]; exact hlt) _ (by rw [markL_length, hat]) (Nat.le_trans hhi HR.out.2.size) hA1 (by rw [hat]; exact HC0.out) (by rw [hat]; exact hO1)
      clear hO1 hI1 hA1 hblk HMS HR HX HC0 HC1 HOj
      generalize hkk : kj + l[j].path.length = kk at HW HN hbound ⊢
      have hkk2 : kk + 1 ≤ 1073741824 := by omega
      clear hkk hbound hcn
      go_wp2_with fail
      go_roundw
      case rel => exact ⟨j + 1, kk + 1, by omega, by go_num, by go_num, HN, HW⟩
      case measure => simp [intOf]; omega
    · have HE : Hid (kj = kend ∧ OwnMks wr lo hi bk bs (.slice a l.length cap) (markK gM cM l k)) := by
        have e : j = l.length := by omega
        have h1 := HKj.out
        have h2 := HR.out.1
        subst e
        rw [List.take_length] at h1
        rw [mixK_all] at h2
        exact ⟨by rw [h1]; exact HEnd.out, h2⟩
      go_wp2_with fail
      go_ret
      exact ⟨by rw [HE.out.1]; rfl, HE.out.2, HR.out.2⟩

set_option maxHeartbeats 2000000 in
theorem heldMarkS_any (l : List Mk) (v : Value) (k : Nat) (w : World) (lo hi : Nat) (hO : MksAt w lo hi v (markK gM cM l k)) (hhi : hi ≤ w.heap.size) (hk0 : 0 < k) (hk : k + (l.map cM).sum ≤ 1073741824) :
    Calls Tryd.prog 8 #[v, .int .i64 k] w fun e w' => e = .returned (.int .i64 ((k + (l.map cM).sum : Nat) : Int)) ∧ Below w.heap.size w w' := by
  obtain ⟨a, cap, rfl, hl, hc⟩ := hO
  rw [markK_length] at hl ⊢
  unfold maxLen at hl
  have HC : Hid (0 < l.length → ∃ b o, a = some ⟨b, o, none⟩ ∧ lo ≤ b ∧ b < hi ∧ ∀ (i : Nat) (h : i < l.length), ∃ pa pc,
      w.cell? ⟨b, o + i * 2, none⟩ = some (.slice pa l[i].path.length pc) ∧ w.cell? ⟨b, o + i * 2 + 1, none⟩ = some (.bool ((k + ((l.take i).map cM).sum + l[i].path.length) % 3 == 0)) ∧ StrsAt w lo hi (.slice pa l[i].path.length pc) (markL (k + ((l.take i).map cM).sum) l[i].path)) := fun h => by
    obtain ⟨b, o, h1, h2, h3, h4⟩ := hc (by rw [markK_length]; exact h)
    refine ⟨b, o, h1, h2, h3, fun i hi => ?_⟩
    have := h4 i (by rw [markK_length]; exact hi)
    rw [markK_get gM cM l k i hi] at this
    simp only [gM, markL_length] at this
    exact this
  clear hc
  generalize hres : k + (l.map cM).sum = kend
  have HEnd := hide hres
  rw [hres] at hk
  clear hres
  go_enter Tryd.func8, Tryd.ntmps8
  go_wp2_with fail
  go_loopw [1, 5] (fun x i wr => ∃ (j kj : Nat), j ≤ l.length ∧ x = .int .i64 (kj : Int) ∧ i = .int .i64 j ∧ Hid (kj = k + ((l.take j).map cM).sum) ∧ Hid (Below w.heap.size w wr)) (fun _ i _ => l.length - (intOf i).toNat)
  case atStart => exact ⟨0, k, Nat.zero_le _, rfl, rfl, (by simp : k = k + ((l.take 0).map cM).sum), Below.refl _ _⟩
  case round =>
    obtain ⟨j, kj, hj, rfl, rfl, HKj, HB⟩ := hrel
    by_cases hlt : j < l.length
    · obtain ⟨b, o, rfl, hb1, hb2, hcell⟩ := HC.out (by omega)
      obtain ⟨pa, pc, c0, c1, hr⟩ := hcell j hlt
      have hltI : (j : Int) < (l.length : Int) := by omega
      rw [← HKj.out] at c1 hr
      have hsm1 := sum_drop cM l j hlt
      have hsm2 := sum_take_le cM l (j + 1)
      have hcn : cM l[j] = l[j].path.length + 1 := rfl
      have hkj := HKj.out
      have hend := HEnd.out
      have hbound : kj + cM l[j] ≤ 1073741824 := by omega
      have hkj0 : 0 < kj := by omega
      have HN : Hid (kj + l[j].path.length + 1 = k + ((l.take (j + 1)).map cM).sum) := by
        show _ = _
        omega
      clear hsm1 hsm2 hkj hend
      have HC1 : Hid (∀ W, Below w.heap.size w W → W.cell? ⟨b, o + j * 2, none⟩ = some (.slice pa l[j].path.length pc) ∧ W.cell? ⟨b, o + j * 2 + 1, none⟩ = some (.bool (((kj + l[j].path.length : Nat) : Int) % 3 == 0))) := fun W h => by
        rw [mod3, h.cell (p := ⟨b, o + j * 2, none⟩) (by show b < w.heap.size; omega), h.cell (p := ⟨b, o + j * 2 + 1, none⟩) (by show b < w.heap.size; omega)]
        exact ⟨c0, c1⟩
      have HH := hide (heldStringS_any l[j].path _ kj wr lo hi (hr.keep HB.out hhi) (Nat.le_trans hhi HB.out.size) hkj0 (by omega))
      clear c0 c1 hr hcell
      obtain ⟨c0, _⟩ := HC1.out wr HB.out
      go_wp2_with fail
      refine HH.out.mono ?_
      rintro e w1 ⟨rfl, hB1⟩
      have HB1 : Hid (Below w.heap.size w w1) := HB.out.trans (hB1.mono HB.out.size)
      obtain ⟨_, d1⟩ := HC1.out w1 HB1.out
      clear hB1 HH HC1 HB
      generalize hkk : kj + l[j].path.length = kk at d1 HN hbound ⊢
      have hkk2 : kk + 1 ≤ 1073741824 := by omega
      have hne : (((kk : Int) % 3 == 0) != ((kk : Int) % 3 == 0)) = false := by simp
      have hnn : ¬ ((kk : Int) < 0) := by omega
      clear hkk hbound hcn
      go_wp2_with fail
      go_roundw
      case rel => exact ⟨j + 1, kk + 1, by omega, by go_num, by go_num, HN, HB1⟩
      case measure => simp [intOf]; omega
    · have HE : Hid (kj = kend) := by
        have e : j = l.length := by omega
        have h1 := HKj.out
        subst e
        rw [List.take_length] at h1
        show _ = _
        rw [h1]; exact HEnd.out
      go_wp2_with fail
      go_ret
      exact ⟨by rw [HE.out]; rfl, HB.out⟩

end Go.Proofs.YtdonbgedhikocaaDoor
