/- The specification's TrailShow. -/
import Derived.Test.YtdonbgedhikocaaDoorTkT
import Derived.Test.YtdonbgedhikocaaDoorTxtP
namespace Go.Proofs.YtdonbgedhikocaaDoor
open Go.RowKit

/-- The word of a mark. -/
def wordM (s : Bool) : ByteArray := if s then ⟨#[115, 117, 98, 32]⟩ else ⟨#[97, 116, 32]⟩
/-- A mark's line without its newline. -/
def lineM (m : Mk) : ByteArray := wordM m.sub ++ tx (pathL m.path)
def textM (m : Mk) : ByteArray := lineM m ++ ⟨#[10]⟩
def showT (l : List Mk) : ByteArray := l.foldl (fun s m => s ++ textM m) ⟨#[]⟩
def showV (l : List Mk) : ByteArray := if trailB l = true then showT l else ⟨#[]⟩

theorem nameB_size {s : ByteArray} (h : nameB s = true) : s.size ≤ 5 := by
  rw [nameB, Bool.and_eq_true, Bool.and_eq_true] at h
  have := of_decide_eq_true h.2.2
  omega
theorem markQ_names {m : Mk} (h : markQ m = true) : ∀ x ∈ m.path, x.size ≤ 5 := fun x hx => by
  rw [markQ, Bool.and_eq_true, Bool.and_eq_true] at h
  exact nameB_size (List.all_eq_true.1 h.1.1 x hx)
theorem markQ_len4 {m : Mk} (h : markQ m = true) : m.path.length ≤ 4 := by
  rw [markQ, Bool.and_eq_true, Bool.and_eq_true] at h
  have := of_decide_eq_true h.1.2
  omega
theorem trailB_mark {l : List Mk} (h : trailB l = true) (i : Nat) (hi : i < l.length) : markQ l[i] = true := by
  rw [trailB, Bool.and_eq_true] at h
  have := List.all_eq_true.1 h.1 i (List.mem_range.2 hi)
  rw [okAt, Bool.and_eq_true, Bool.and_eq_true, mkAt_at l i hi] at this
  exact this.1.1
theorem trailB_len {l : List Mk} (h : trailB l = true) : l.length ≤ 6 := by
  rw [trailB, Bool.and_eq_true] at h
  have := of_decide_eq_true h.2
  omega
theorem word_len (s : Bool) : (wordM s).size ≤ 4 := by cases s <;> decide
theorem lineM_len {m : Mk} (h : markQ m = true) : (lineM m).size ≤ 104 := by
  have h1 := pathL_len m.path (markQ_names h) (markQ_len4 h)
  have h2 := word_len m.sub
  rw [lineM, sizeA]
  omega
theorem showT_succ (l : List Mk) (k : Nat) (h : k < l.length) : showT (l.take (k + 1)) = showT (l.take k) ++ textM l[k] := by
  unfold showT
  rw [List.take_succ_eq_append_getElem h, List.foldl_append]
  rfl
theorem textM_len {m : Mk} (h : markQ m = true) : (textM m).size ≤ 105 := by
  have := lineM_len h
  have e : (⟨#[10]⟩ : ByteArray).size = 1 := rfl
  rw [textM, sizeA]
  omega

set_option maxHeartbeats 1000000 in
theorem l11Text_any (m : Mk) (pa : Option Addr) (pc : Nat) (w : World) (lo hi : Nat) (hm : StrsAt w lo hi (.slice pa m.path.length pc) m.path) (hhi : hi ≤ w.heap.size) (hq : markQ m = true) :
    Calls Tryd.prog 22 #[.agg #[.slice pa m.path.length pc, .bool m.sub]] w fun e w' => e = .returned (.string (textM m)) ∧ Below w.heap.size w w' := by
  have h4 := markQ_len4 hq
  have h5 := markQ_names hq
  have hpl := pathL_len m.path h5 h4
  obtain ⟨path, sub⟩ := m
  have HA : Hid (∀ o, Below w.heap.size w (w.alloc o)) := fun o => (Below.refl _ _).alloc (Nat.le_refl _) o
  have HC : Hid (∀ o, Calls Tryd.prog 29 #[.slice pa path.length pc] (w.alloc o) fun e w' => e = .returned (.string (tx (pathL path))) ∧ w' = w.alloc o) := fun o => l3Name_any path pa pc _ lo hi (StrsAt.keep hm (HA.out o) hhi) h4 (fun i hi => h5 _ (List.getElem_mem hi))
  have hpl : (tx (pathL path)).size ≤ 100 := hpl
  have HV : Hid (textM ⟨path, sub⟩ = wordM sub ++ tx (pathL path) ++ ⟨#[10]⟩) := rfl
  generalize textM ⟨path, sub⟩ = res at HV ⊢
  generalize tx (pathL path) = p at HC HV hpl
  clear hm h4 h5 hq
  show Calls Tryd.prog 22 #[.agg #[.slice pa path.length pc, .bool sub]] w _
  cases sub
  all_goals
    go_enter Tryd.func22, Tryd.ntmps22
    go_wp2_with (go_at_call 29; refine (HC.out _).mono ?_; rintro e w' ⟨rfl, rfl⟩)
    go_ret
    exact ⟨by rw [HV.out]; rfl, HA.out _⟩

set_option maxHeartbeats 2000000 in
theorem specTrailShow_any (l : List Mk) (v : Value) (w : World) (lo hi : Nat) (hv : MksAt w lo hi v l) (hhi : hi ≤ w.heap.size) :
    Calls Tryd.prog 11 #[v] w fun e w' => e = .returned (.string (showV l)) ∧ Below w.heap.size w w' := by
  have HOk := hide (specTrailOk_any l v w lo hi hv hhi)
  obtain ⟨a, cap, rfl⟩ : ∃ a cap, v = .slice a l.length cap := by obtain ⟨a, cap, h, _⟩ := hv; exact ⟨a, cap, h⟩
  have HM : Hid (∀ (i : Nat) (h : i < l.length), ∃ b o pa pc, a = some ⟨b, o, none⟩ ∧ (∀ W, Below w.heap.size w W → W.cell? ⟨b, o + i * 2, none⟩ = some (.slice pa l[i].path.length pc) ∧ W.cell? ⟨b, o + i * 2 + 1, none⟩ = some (.bool l[i].sub) ∧ StrsAt W lo hi (.slice pa l[i].path.length pc) l[i].path)) := fun i h => mks_cell hv hhi i h
  clear hv
  cases htb : trailB l with
  | false =>
    have HV : Hid (showV l = ⟨#[]⟩) := by show _ = _; rw [showV, htb]; rfl
    rw [htb] at HOk
    clear htb
    go_enter Tryd.func11, Tryd.ntmps11
    go_wp2_with fail
    refine HOk.out.mono ?_
    rintro e w1 ⟨rfl, hB1⟩
    have HB1 := hide hB1
    clear hB1
    go_wp2_with fail
    go_ret
    exact ⟨by rw [HV.out]; rfl, HB1.out⟩
  | true =>
    have HV : Hid (showV l = showT l) := by show _ = _; rw [showV, htb]; rfl
    have HQ := hide (trailB_mark htb)
    have hl6 := trailB_len htb
    rw [htb] at HOk
    clear htb
    go_enter Tryd.func11, Tryd.ntmps11
    go_wp2_with fail
    refine HOk.out.mono ?_
    rintro e w1 ⟨rfl, hB1⟩
    have HB1 := hide hB1
    clear hB1 HOk
    go_wp2_with fail
    go_loopw [3, 4] (fun x i wr => ∃ (k : Nat) (s : ByteArray), k ≤ l.length ∧ i = .int .i64 k ∧ x = .string s ∧ s.size ≤ 105 * k ∧ Hid (s = showT (l.take k)) ∧ Hid (Below w.heap.size w wr)) (fun _ i _ => l.length - (intOf i).toNat)
    case atStart => exact ⟨0, _, Nat.zero_le _, rfl, rfl, Nat.le_refl _, rfl, HB1⟩
    case round =>
      obtain ⟨k, s, hk, rfl, rfl, hsz, HS, HB⟩ := hrel
      clear HB1
      by_cases hlt : k < l.length
      · have hltI : (k : Int) < (l.length : Int) := by omega
        obtain ⟨b, o, pa, pc, rfl, hcell⟩ := HM.out k hlt
        have HCell := hide hcell
        obtain ⟨c0, c1, hst⟩ := hcell wr HB.out
        have HT := hide (l11Text_any l[k] pa pc wr lo hi hst (Nat.le_trans hhi HB.out.size) (HQ.out k hlt))
        have htl := textM_len (HQ.out k hlt)
        have HN := hide (showT_succ l k hlt)
        generalize textM l[k] = t at HT htl HN
        clear hcell hst
        go_wp2_with fail
        refine HT.out.mono ?_
        rintro e w2 ⟨rfl, hB2⟩
        have HB2 : Hid (Below w.heap.size w w2) := HB.out.trans (hB2.mono HB.out.size)
        have HL : Hid ((s ++ t).size ≤ 105 * (k + 1) ∧ s ++ t = showT (l.take (k + 1))) := ⟨by rw [sizeA]; omega, by rw [HN.out, HS.out]⟩
        clear hB2 HT
        go_wp2_with fail
        go_roundw
        case rel => exact ⟨k + 1, s ++ t, by omega, by go_num, rfl, HL.out.1, HL.out.2, HB2⟩
        case measure => simp [intOf]; omega
      · have HE : Hid (s = showT l) := by
          have h := HS.out
          rw [List.take_of_length_le (by omega)] at h
          exact h
        go_wp2_with fail
        go_ret
        exact ⟨by rw [HV.out, ← HE.out]; rfl, HB.out⟩

end Go.Proofs.YtdonbgedhikocaaDoor
