/- Writing to a disk, the plain part; the specification's DiskWrite; the small functions of the program's. -/
import Derived.Test.YtbimfljllclgfaaRw
import Derived.Test.YtbimfljllclgfaaOwnR
import Derived.BigRegion
import Derived.Lib.SliceRun
namespace Go.Proofs.Ytbimfljllclgfaa
open Go.RowKit

/-- A write that goes somewhere. -/
def rawB (r : Rw) : Bool := (decide (0 ≤ r.pos) && decide (r.pos ≤ 193)) && decide (r.data.size ≤ 64)
def putR (l : List ByteArray) (r : Rw) : List ByteArray := if rawB r = true then l.set r.pos.toNat r.data else l
/-- What stands behind these writes. -/
def writeV (l : List ByteArray) (rs : List Rw) : List ByteArray := rs.foldl putR l
theorem putR_length (l : List ByteArray) (r : Rw) : (putR l r).length = l.length := by
  unfold putR
  split <;> simp
theorem writeV_length : ∀ (rs : List Rw) (l : List ByteArray), (writeV l rs).length = l.length
  | [], _ => rfl
  | r :: rs, l => by
    show (writeV (putR l r) rs).length = _
    rw [writeV_length rs, putR_length]
theorem writeV_snoc (l : List ByteArray) (rs : List Rw) (r : Rw) : writeV l (rs ++ [r]) = putR (writeV l rs) r := by
  simp [writeV, List.foldl_append]
theorem writeV_filter : ∀ (rs : List Rw) (l : List ByteArray), writeV l (rs.filter rawB) = writeV l rs
  | [], _ => rfl
  | r :: rs, l => by
    cases h : rawB r with
    | true => rw [List.filter_cons_of_pos h]; exact writeV_filter rs _
    | false =>
      rw [List.filter_cons_of_neg (by simp [h]), writeV_filter rs l]
      show _ = writeV (putR l r) rs
      rw [putR, if_neg (by simp [h])]
/-- How many of them are ahead of the cut. -/
def cutN (n : Nat) (cut : Int) : Nat := min cut.toNat n
theorem take_cut (rs : List Rw) (cut : Int) : rs.take (cutN rs.length cut) = rs.take cut.toNat := by
  unfold cutN
  by_cases h : cut.toNat ≤ rs.length
  · rw [Nat.min_eq_left h]
  · rw [Nat.min_eq_right (by omega), List.take_of_length_le (Nat.le_refl _), List.take_of_length_le (by omega)]
/-- DiskWrite's answer. -/
def diskV (l : List ByteArray) (rs : List Rw) (cut : Int) : List ByteArray := if diskB l = true then writeV l (rs.take (cutN rs.length cut)) else []

theorem ownStrs_set {w : World} {lo hi b : Nat} {v : Value} {l : List ByteArray} (h : OwnStrs w lo hi b v l) (i : Nat) (_ : i < l.length) (s : ByteArray) (hs : s.size ≤ maxLen) : OwnStrs (w.setCell ⟨b, i, none⟩ (.string s)) lo hi b v (l.set i s) := by
  obtain ⟨⟨a, cap, hv, ha⟩, h2, h3, h4, h5⟩ := h
  refine ⟨⟨a, cap, by rw [List.length_set]; exact hv, fun h => ha (by rwa [List.length_set] at h)⟩, by rwa [List.length_set], fun j hj => ?_, fun h => h4 (by rwa [List.length_set] at h), fun j hj => ?_⟩
  · rw [List.getElem_set]
    split
    · exact hs
    · exact h3 j (by rwa [List.length_set] at hj)
  · have hj' : j < l.length := by rwa [List.length_set] at hj
    refine ⟨?_, by rw [World.frozen?_setCell]; exact (h5 j hj').2⟩
    rw [List.getElem_set]
    by_cases e : i = j
    · subst e
      rw [if_pos rfl, World.cell?_setCell_same' _ _ _ (by rw [(h5 i hj').1]; rfl)]
    · rw [if_neg e, World.cell?_setCell_other _ _ _ _ (by intro h; injection h with _ h2 _; omega)]
      exact (h5 j hj').1

set_option maxHeartbeats 400000 in
theorem l21In_any (n lo hi : Int) (w : World) :
    Calls Try.prog 30 #[.int .i64 n, .int .i64 lo, .int .i64 hi] w fun e w' => e = .returned (.bool (decide (lo ≤ n) && decide (n ≤ hi))) ∧ w' = w := by
  by_cases h : lo ≤ n
  · go_enter Try.func30, Try.ntmps30
    go_wp2
    go_ret
    exact ⟨by simp [h], rfl⟩
  · go_enter Try.func30, Try.ntmps30
    go_wp2
    go_ret
    exact ⟨by simp; omega, rfl⟩

set_option maxHeartbeats 1000000 in
theorem l21RawOk_any (r : Rw) (w : World) (hs : r.data.size ≤ maxLen) :
    Calls Try.prog 19 #[.agg #[.int .i64 r.pos, .string r.data]] w fun e w' => e = .returned (.bool (rawB r)) ∧ Below w.heap.size w w' := by
  obtain ⟨pos, data⟩ := r
  have hs : data.size ≤ maxLen := hs
  unfold maxLen at hs
  show Calls Try.prog 19 #[.agg #[.int .i64 pos, .string data]] w _
  have HC := hide (fun W => l21In_any pos 0 193 W)
  have HA : Hid (∀ o, Below w.heap.size w (w.alloc o)) := fun o => (Below.refl _ _).alloc (Nat.le_refl _) o
  have HR : Hid (rawB ⟨pos, data⟩ = ((decide (0 ≤ pos) && decide (pos ≤ 193)) && decide (data.size ≤ 64))) := rfl
  generalize rawB ⟨pos, data⟩ = r at HR ⊢
  cases hin : (decide (0 ≤ pos) && decide (pos ≤ 193)) with
  | false =>
    rw [hin] at HC HR
    have hr : r = false := HR.out
    subst hr
    go_enter Try.func19, Try.ntmps19
    go_wp2_with fail
    refine (HC.out _).mono ?_
    rintro e w1 ⟨rfl, rfl⟩
    go_wp2_with fail
    go_ret
    exact ⟨rfl, HA.out _⟩
  | true =>
    rw [hin] at HC HR
    have hr : r = decide (data.size ≤ 64) := HR.out
    subst hr
    by_cases h64 : data.size ≤ 64
    · rw [decide_eq_true h64]
      have hq : decide ((data.size : Int) ≤ 64) = true := by simp; omega
      go_enter Try.func19, Try.ntmps19
      go_wp2_with fail
      refine (HC.out _).mono ?_
      rintro e w1 ⟨rfl, rfl⟩
      go_wp2_with fail
      go_ret
      exact ⟨by first | rfl | exact ret_bool hq, HA.out _⟩
    · rw [decide_eq_false h64]
      have hq : decide ((data.size : Int) ≤ 64) = false := by simp; omega
      go_enter Try.func19, Try.ntmps19
      go_wp2_with fail
      refine (HC.out _).mono ?_
      rintro e w1 ⟨rfl, rfl⟩
      go_wp2_with fail
      go_ret
      exact ⟨by first | rfl | exact ret_bool hq, HA.out _⟩

set_option maxHeartbeats 1000000 in
theorem goesTo_any (r : Rw) (w : World) (hs : r.data.size ≤ maxLen) :
    Calls Try.prog 33 #[.string r.data, .int .i64 r.pos] w fun e w' => e = .returned (.bool (rawB r)) ∧ w' = w := by
  obtain ⟨pos, data⟩ := r
  have hs : data.size ≤ maxLen := hs
  show Calls Try.prog 33 #[.string data, .int .i64 pos] w _
  have HC := hide (fun W => fits_any data W hs)
  have HR : Hid (rawB ⟨pos, data⟩ = ((decide (0 ≤ pos) && decide (pos ≤ 193)) && decide (data.size ≤ 64))) := rfl
  generalize rawB ⟨pos, data⟩ = r at HR ⊢
  generalize decide (data.size ≤ 64) = f at HR HC
  by_cases h0 : 0 ≤ pos
  · by_cases h1 : pos < 194
    · have hr : r = f := by rw [HR.out, decide_eq_true h0, decide_eq_true (by omega : pos ≤ 193)]; rfl
      subst hr
      go_enter Try.func33, Try.ntmps33
      go_wp2_with fail
      refine (HC.out _).mono ?_
      rintro e w1 ⟨rfl, rfl⟩
      go_wp2_with fail
      go_ret
      exact ⟨rfl, rfl⟩
    · have hr : r = false := by rw [HR.out, decide_eq_false (by omega : ¬ pos ≤ 193), Bool.and_false]; rfl
      subst hr
      go_enter Try.func33, Try.ntmps33
      go_wp2_with fail
      go_ret
      exact ⟨rfl, rfl⟩
  · have hr : r = false := by rw [HR.out, decide_eq_false h0]; rfl
    subst hr
    go_enter Try.func33, Try.ntmps33
    go_wp2_with fail
    go_ret
    exact ⟨rfl, rfl⟩

theorem cells_strs {w : World} {lo hi : Nat} {a : Option Addr} {cap : Nat} {l : List ByteArray} (hv : StrsAt w lo hi (.slice a l.length cap) l) (h0 : 0 < l.length) :
    ∃ b o, a = some ⟨b, o, none⟩ ∧ lo ≤ b ∧ b < hi ∧ ∀ j u, (l.map Value.string)[j]? = some u → w.cell? ((⟨b, o, none⟩ : Addr).add j) = some u := by
  obtain ⟨a', cap', he, _, _, hc⟩ := hv
  simp only [Value.slice.injEq, true_and] at he
  obtain ⟨rfl, rfl⟩ := he
  obtain ⟨b, o, rfl, h1, h2, hcell⟩ := hc h0
  refine ⟨b, o, rfl, h1, h2, fun j u hu => ?_⟩
  rw [List.getElem?_map] at hu
  by_cases hj : j < l.length
  · rw [List.getElem?_eq_getElem hj] at hu
    have e : Addr.add ⟨b, o, none⟩ j = ⟨b, o + j, none⟩ := by unfold Addr.add; split <;> simp_all
    rw [e, hcell j hj]
    exact hu
  · rw [List.getElem?_eq_none (by omega)] at hu; cases hu

set_option maxHeartbeats 1000000 in
theorem clone_any (l : List ByteArray) (v : Value) (w : World) (lo hi : Nat) (hv : StrsAt w lo hi v l) (hhi : hi ≤ w.heap.size) (h0 : 0 < l.length) (hl : l.length ≤ 1048576) :
    Calls Try.prog 23 #[v] w fun e w' => ∃ g c, e = .returned (.slice (some ⟨g, 0, none⟩) l.length c) ∧ w.heap.size ≤ g ∧ OwnStrs w' g (g + 1) g (.slice (some ⟨g, 0, none⟩) l.length c) l ∧ Below w.heap.size w w' ∧ g < w'.heap.size := by
  have hv' := hv
  obtain ⟨a, cap, rfl, _, hs, _⟩ := hv
  obtain ⟨b, o, rfl, _, hb2, hcell⟩ := cells_strs hv' h0
  obtain ⟨iS, hiS', hzS, hsS, hbS⟩ := info_S
  have hiS := hide hiS'
  have HS := hide hs
  have HC : Hid (∀ o1, ∀ j u, (l.map Value.string)[j]? = some u → (w.alloc o1).cell? ((⟨b, o, none⟩ : Addr).add j) = some u) := fun o1 j u hu => by
    rw [World.cell?_alloc_old _ _ _ (by unfold Addr.add; split <;> (show b ≠ _; omega))]; exact hcell j u hu
  have HBe : Hid (Blk (w.alloc (.cells #[] 9)) w.heap.size #[] 9) := Blk.new _ _ _
  have hnq : ∀ W : World, (binOp .eql 22 (.slice (some ⟨b, o, none⟩) l.length cap) (.slice none 0 0)).run Try.prog W = .ok (.bool false) W := fun W => Lib.run_eql_slice_nil W 22 9 _ _ _ _ _ Try.underlying22
  clear hiS' hs hcell hv'
  go_enter Try.func23, Try.ntmps23
  go_wp2_with (at_builtin; refine wpList_append_own_at _ rfl _ _ 22 rfl w.heap.size 9 iS (.string ⟨#[]⟩) 1 16 Try.underlying22 hiS.out hzS hsS hbS rfl (by decide) (.slice (some ⟨w.heap.size, 0, none⟩) 0 0) 0 [] rfl (own_none HBe.out (Nat.le_refl _)) ⟨b, o, none⟩ l.length cap (l.map .string) rfl (by simp) (HC.out _) (by simp [Value.oneCell']) (by unfold maxLen; omega) (by omega) (by simp) ?_; intro v' w1 hown hgrow hnil hat; have HOWN := hide hown; have HGROW := hide hgrow; clear hown hgrow hat hnil)
  --@@1
  go_ret
  have hown : w1.ownsRow w.heap.size 9 1 v' l.length (l.map .string) := by simpa using HOWN.out
  obtain ⟨g, c, rfl, hg1, hg2⟩ := ownsRow_at hown h0
  refine ⟨g, c, rfl, hg1, ?_, ?_, hg2⟩
  · have ho := ownStrs_of_row hown (by unfold maxLen; omega) HS.out g (.inl rfl)
    exact ⟨ho.1, ho.2.1, ho.2.2.1, fun _ => ⟨Nat.le_refl _, by omega⟩, ho.2.2.2.2⟩
  · exact ((Below.refl _ _).alloc (Nat.le_refl _) _).grown HGROW.out (by simp) (fun k h => by simp [Value.ownBlock] at h; omega)

set_option maxHeartbeats 1000000 in
theorem l21Copy_any (l : List ByteArray) (v : Value) (w : World) (lo hi : Nat) (hv : StrsAt w lo hi v l) (hhi : hi ≤ w.heap.size) (h0 : 0 < l.length) (hl : l.length ≤ 1048576) :
    Calls Try.prog 18 #[.agg #[v]] w fun e w' => ∃ g c, e = .returned (.agg #[.slice (some ⟨g, 0, none⟩) l.length c]) ∧ w.heap.size ≤ g ∧ OwnStrs w' g (g + 1) g (.slice (some ⟨g, 0, none⟩) l.length c) l ∧ Below w.heap.size w w' ∧ g < w'.heap.size := by
  have hv' := hv
  obtain ⟨a, cap, rfl, _, hs, _⟩ := hv
  obtain ⟨b, o, rfl, _, hb2, hcell⟩ := cells_strs hv' h0
  obtain ⟨iS, hiS', hzS, hsS, hbS⟩ := info_S
  have hiS := hide hiS'
  have HS := hide hs
  have HC : Hid (∀ o1 o2 o3, ∀ j u, (l.map Value.string)[j]? = some u → (((w.alloc o1).alloc o2).alloc o3).cell? ((⟨b, o, none⟩ : Addr).add j) = some u) := fun o1 o2 o3 j u hu => by
    have hb : (Addr.add ⟨b, o, none⟩ j).block = b := by unfold Addr.add; split <;> rfl
    rw [World.cell?_alloc_old _ _ _ (by rw [hb]; simp; omega), World.cell?_alloc_old _ _ _ (by rw [hb]; simp; omega), World.cell?_alloc_old _ _ _ (by rw [hb]; omega)]; exact hcell j u hu
  have HBe : Hid (∀ o1 o2, Blk (((w.alloc o1).alloc o2).alloc (.cells #[] 9)) (w.heap.size + 1 + 1) #[] 9 ∧ Below w.heap.size w (((w.alloc o1).alloc o2).alloc (.cells #[] 9))) := fun o1 o2 => ⟨Blk.atn (by simp), (((Below.refl _ _).alloc (Nat.le_refl _) _).alloc (by simp) _).alloc (by simp; omega) _⟩
  have HB1 : Hid (∀ o1 A t o3, Blk (((w.alloc o1).alloc (.cells A t)).alloc o3) (w.heap.size + 1) A t) := fun o1 A t o3 => (Blk.atn (by simp)).alloc _
  clear hiS' hs hcell hv'
  go_enter Try.func18, Try.ntmps18
  go_wp2_with (at_builtin; refine wpList_append_own_at _ rfl _ _ 22 rfl (w.heap.size + 1 + 1) 9 iS (.string ⟨#[]⟩) 1 16 Try.underlying22 hiS.out hzS hsS hbS rfl (by decide) (.slice (some ⟨w.heap.size + 1 + 1, 0, none⟩) 0 0) 0 [] rfl (own_none (HBe.out _ _).1 (Nat.le_refl _)) ⟨b, o, none⟩ l.length cap (l.map .string) rfl (by simp) (HC.out _ _ _) (by simp [Value.oneCell']) (by unfold maxLen; omega) (by omega) (by simp) ?_; intro v' w1 hown hgrow hnil hat; have HQ := hide ((HB1.out _ _ _ _).grown hgrow (by simp [Value.ownBlock])); have q0 := HQ.out.cell 0 _ rfl; have q1 := HQ.out.frozen 0; have HBw : Hid (Below w.heap.size w w1) := (HBe.out _ _).2.grown hgrow (by simp; omega) (fun k h => by simp [Value.ownBlock] at h; omega); obtain ⟨g, c, rfl, hg1, hg2⟩ := ownsRow_at hown (by simp; omega); have HOWN := hide hown; clear hown hgrow hat hnil)
  have hown := HOWN.out
  simp only [List.nil_append, Nat.zero_add] at hown
  refine bodyPost_ret (v := .agg #[.slice (some ⟨g, 0, none⟩) l.length c]) (by simp [results, Try.results18, go_sem, q0]) rfl ⟨g, c, rfl, by omega, ?_, ?_, ?_⟩
  · have ho := ownStrs_of_row hown (by unfold maxLen; omega) HS.out g (.inl rfl)
    have ho2 : OwnStrs w1 g (g + 1) g (.slice (some ⟨g, 0, none⟩) l.length c) l := ⟨ho.1, ho.2.1, ho.2.2.1, fun _ => ⟨Nat.le_refl _, by omega⟩, ho.2.2.2.2⟩
    exact ownStrs_blk ho2 fun _ => Below.heap_setCell _ _ _ _ (by show g ≠ w.heap.size + 1; omega)
  · exact HBw.out.setCell (p := ⟨w.heap.size + 1, 0, none⟩) (by show _ ≤ w.heap.size + 1; omega) _
  · simp [World.setCell]; omega

end Go.Proofs.Ytbimfljllclgfaa
