/- The laws' own count of what an argument holds: szStringS, szTreeS, szTree answer szStrs, szKids, szT and write nothing that was there. -/
import Derived.Test.YtifbbbgcdklaaaaProg
import Derived.Test.YtifbbbgcdklaaaaRep
namespace Go.Proofs.Ytifbbbgcdklaaaa
open Go.RowKit

theorem szLoop_drop (l : List ByteArray) (k : Nat) (h : k < l.length) (L : Int) : szLoop (l.drop k) L = if L - l[k].size < 0 then -1 else szLoop (l.drop (k + 1)) (L - l[k].size) := by
  rw [List.drop_eq_getElem_cons h, szLoop]

theorem ret_int {k : IntKind} {a b : Int} (h : a = b) : Ending.returned (.int k a) = .returned (.int k b) := by rw [h]

set_option maxHeartbeats 1000000 in
theorem szStringS_any (l : List ByteArray) (v : Value) (left : Int) (w : World) (lo hi : Nat) (hv : StrsAt w lo hi v l) (h0 : 0 ≤ left) (h1 : left ≤ 1048576) :
    Calls Try.prog 17 #[v, .int .i64 left] w fun e w' => e = .returned (.int .i64 (szStrs l left)) ∧ w' = w := by
  obtain ⟨a, cap, rfl, hl, hs, hc⟩ := hv
  unfold maxLen at hl hs
  by_cases hneg : left - l.length < 0
  · go_enter Try.func17, Try.ntmps17
    go_wp2
    go_ret
    exact ⟨by rw [szStrs, if_pos hneg]; rfl, rfl⟩
  · have HF : Hid (szStrs l left = szLoop (l.drop 0) (left - l.length)) := by show _ = _; rw [szStrs, if_neg hneg]; rfl
    go_enter Try.func17, Try.ntmps17
    go_wp2
    go_loop [1, 5] (fun x i => ∃ (k : Nat) (L : Int), k ≤ l.length ∧ i = .int .i64 k ∧ x = .int .i64 L ∧ 0 ≤ L ∧ L ≤ 1048576 ∧ Hid (szStrs l left = szLoop (l.drop k) L)) (fun _ i => l.length - (intOf i).toNat)
    case atStart => exact ⟨0, _, Nat.zero_le _, rfl, rfl, by omega, by omega, HF⟩
    case round =>
      obtain ⟨k, L, hk, rfl, rfl, hL0, hL1, HK⟩ := hrel
      clear HF
      by_cases hlt : k < l.length
      · obtain ⟨b, o, rfl, _, _, hcell⟩ := hc (by omega)
        have hck := hcell k hlt
        have hsk := hs k hlt
        have HE := szLoop_drop l k hlt L
        have HE' : Hid (szLoop (l.drop k) L = if L - l[k].size < 0 then -1 else szLoop (l.drop (k + 1)) (L - l[k].size)) := HE
        clear HE hc hcell hs
        by_cases hn : L - l[k].size < 0
        · go_wp2
          go_ret
          refine ⟨ret_int ?_, rfl⟩
          rw [HK.out, HE'.out, if_pos hn]
        · go_wp2
          go_round
          case rel => exact ⟨k + 1, _, by omega, by go_num, rfl, by omega, by omega, by show _ = _; rw [HK.out, HE'.out, if_neg hn]⟩
          case measure => simp [intOf]; omega
      · go_wp2
        go_ret
        refine ⟨ret_int ?_, rfl⟩
        rw [HK.out, List.drop_eq_nil_of_le (by omega), szLoop]

/-- A tree as one value. -/
abbrev aggT (n : Nat) (t : T n) (nv kv : Value) : Value := .agg #[.bool (headT n t).1, .int .i64 (headT n t).2.1, .string (headT n t).2.2, nv, kv]

def SzTreeC (n : Nat) : Prop := ∀ (t : T n) (nv kv : Value) (left : Int) (w : World) (lo hi : Nat), Rep w lo hi n t nv kv → hi ≤ w.heap.size → 0 ≤ left → left ≤ 1048576 →
  Calls Try.prog 4 #[aggT n t nv kv, .int .i64 left] w fun e w' => e = .returned (.int .i64 (szT n t left)) ∧ Below w.heap.size w w'

theorem szKidsLoop_drop {α : Type} (f : α → Int → Int) (l : List α) (k : Nat) (h : k < l.length) (L : Int) : szKidsLoop f (l.drop k) L = if f l[k] L < 0 then -1 else szKidsLoop f (l.drop (k + 1)) (f l[k] L) := by
  rw [List.drop_eq_getElem_cons h, szKidsLoop]

theorem szLoop_le : ∀ (l : List ByteArray) (L : Int), 0 ≤ L → szLoop l L ≤ L
  | [], L, _ => Int.le_refl L
  | s :: r, L, h => by
    rw [szLoop]
    split
    · omega
    · have := szLoop_le r (L - s.size) (by omega); omega
theorem szStrs_le (l : List ByteArray) (L : Int) (h : 0 ≤ L) : szStrs l L ≤ L := by
  rw [szStrs]
  split
  · omega
  · have := szLoop_le l (L - l.length) (by omega); omega
theorem szKidsLoop_le {α : Type} (f : α → Int → Int) (hf : ∀ t L, 0 ≤ L → f t L ≤ L) : ∀ (l : List α) (L : Int), 0 ≤ L → szKidsLoop f l L ≤ L
  | [], L, _ => Int.le_refl L
  | t :: r, L, h => by
    rw [szKidsLoop]
    split
    · omega
    · have h1 := hf t L h
      have := szKidsLoop_le f hf r (f t L) (by omega); omega
theorem szKids_le {α : Type} (f : α → Int → Int) (hf : ∀ t L, 0 ≤ L → f t L ≤ L) (l : List α) (L : Int) (h : 0 ≤ L) : szKids f l L ≤ L := by
  rw [szKids]
  split
  · omega
  · have := szKidsLoop_le f hf l (L - l.length) (by omega); omega
theorem szT_le : ∀ (n : Nat) (t : T n) (L : Int), 0 ≤ L → szT n t L ≤ L
  | 0, _, L, _ => Int.le_refl L
  | n + 1, t, L, h => by
    rw [szT]
    split
    · omega
    · rename_i h1
      have a := szStrs_le t.names (L - t.data.size) (by omega)
      split
      · omega
      · rename_i h2
        have b := szKids_le (szT n) (szT_le n) t.kids (szStrs t.names (L - t.data.size)) (by omega)
        split <;> omega

set_option maxHeartbeats 1000000 in
theorem szTreeS_any (n : Nat) (ih : SzTreeC n) (l : List (T n)) (v : Value) (left : Int) (w : World) (lo hi : Nat) (hv : KidsAt (Rep w lo hi n) (headT n) w lo hi v l) (hhi : hi ≤ w.heap.size) (h0 : 0 ≤ left) (h1 : left ≤ 1048576) :
    Calls Try.prog 18 #[v, .int .i64 left] w fun e w' => e = .returned (.int .i64 (szKids (szT n) l left)) ∧ Below w.heap.size w w' := by
  obtain ⟨a, cap, rfl, hl, hc⟩ := hv
  unfold maxLen at hl
  by_cases hneg : left - l.length < 0
  · go_enter Try.func18, Try.ntmps18
    go_wp2
    go_ret
    exact ⟨by rw [szKids, if_pos hneg]; rfl, Below.refl _ _⟩
  · have HF : Hid (szKids (szT n) l left = szKidsLoop (szT n) (l.drop 0) (left - l.length)) := by show _ = _; rw [szKids, if_neg hneg]; rfl
    have HI : Hid (SzTreeC n) := ih
    clear ih
    go_enter Try.func18, Try.ntmps18
    go_wp2
    go_loopw [1, 5] (fun x i wr => ∃ (k : Nat) (L : Int), k ≤ l.length ∧ i = .int .i64 k ∧ x = .int .i64 L ∧ 0 ≤ L ∧ L ≤ 1048576 ∧ Hid (szKids (szT n) l left = szKidsLoop (szT n) (l.drop k) L) ∧ Hid (Below w.heap.size w wr)) (fun _ i _ => l.length - (intOf i).toNat)
    case atStart => exact ⟨0, _, Nat.zero_le _, rfl, rfl, by omega, by omega, HF, Below.refl _ _⟩
    case round =>
      obtain ⟨k, L, hk, rfl, rfl, hL0, hL1, HK, HB⟩ := hrel
      clear HF
      by_cases hlt : k < l.length
      · obtain ⟨b, o, rfl, hb1, hb2, hcell⟩ := hc (by omega)
        obtain ⟨nv, kv, c0, c1, c2, c3, c4, hr⟩ := hcell k hlt
        have HR : Hid (Rep wr lo hi n l[k] nv kv) := Rep.keep HB.out hhi n _ _ _ hr
        have hz : hi ≤ wr.heap.size := Nat.le_trans hhi HB.out.size
        rw [← HB.out.cell (p := ⟨b, _, none⟩) (by show b < w.heap.size; omega)] at c0 c1 c2 c3 c4
        have HE : Hid (szKidsLoop (szT n) (l.drop k) L = if szT n l[k] L < 0 then -1 else szKidsLoop (szT n) (l.drop (k + 1)) (szT n l[k] L)) := szKidsLoop_drop (szT n) l k hlt L
        have hle := szT_le n l[k] L hL0
        clear hc hcell hr
        go_wp2_with fail
        refine (HI.out l[k] nv kv L wr lo hi HR.out hz hL0 hL1).mono ?_
        rintro e w1 ⟨rfl, hB1⟩
        have HB1 : Hid (Below w.heap.size w w1) := HB.out.trans (hB1.mono HB.out.size)
        clear hB1
        by_cases hn : szT n l[k] L < 0
        · go_wp2_with fail
          go_ret
          refine ⟨ret_int ?_, HB1.out⟩
          rw [HK.out, HE.out, if_pos hn]
        · go_wp2_with fail
          go_roundw
          case rel => exact ⟨k + 1, _, by omega, by go_num, rfl, by omega, by omega, by show _ = _; rw [HK.out, HE.out, if_neg (by omega)], HB1⟩
          case measure => simp [intOf]; omega
      · go_wp2
        go_ret
        refine ⟨ret_int ?_, HB.out⟩
        rw [HK.out, List.drop_eq_nil_of_le (by omega), szKidsLoop]

theorem strsOfRep {w : World} {lo hi n : Nat} {t : T (n + 1)} {nv kv : Value} (h : Rep w lo hi (n + 1) t nv kv) : StrsAt w lo hi nv t.names := h.2.2.1
theorem kidsOfRep {w : World} {lo hi n : Nat} {t : T (n + 1)} {nv kv : Value} (h : Rep w lo hi (n + 1) t nv kv) : KidsAt (Rep w lo hi n) (headT n) w lo hi kv t.kids := h.2.2.2

theorem KidsAt.keepB {w w' : World} {lo hi B n : Nat} {v : Value} {l : List (T n)} (h : KidsAt (Rep w lo hi n) (headT n) w lo hi v l) (hb : Below B w w') (hB : hi ≤ B) : KidsAt (Rep w' lo hi n) (headT n) w' lo hi v l :=
  h.keep (Rep.keep hb hB n) hb hB

set_option maxHeartbeats 1000000 in
theorem szTree_succ (n : Nat) (ih : SzTreeC n) : SzTreeC (n + 1) := by
  intro t nv kv left w lo hi hrep hhi h0 h1
  obtain ⟨hd, hm, hN, hK⟩ := hrep
  obtain ⟨dir, mode, data, names, kids⟩ := t
  have hd : data.size ≤ maxLen := hd
  have hN : StrsAt w lo hi nv names := hN
  have hK : KidsAt (Rep w lo hi n) (headT n) w lo hi kv kids := hK
  clear hm
  unfold maxLen at hd
  have hdef : szT (n + 1) ⟨dir, mode, data, names, kids⟩ left = if left - data.size < 0 then -1 else
    if szStrs names (left - data.size) < 0 then -1 else
    if szKids (szT n) kids (szStrs names (left - data.size)) < 0 then -1 else szKids (szT n) kids (szStrs names (left - data.size)) := rfl
  have HD := hdef
  have HD' : Hid (szT (n + 1) ⟨dir, mode, data, names, kids⟩ left = if left - data.size < 0 then -1 else
    if szStrs names (left - data.size) < 0 then -1 else
    if szKids (szT n) kids (szStrs names (left - data.size)) < 0 then -1 else szKids (szT n) kids (szStrs names (left - data.size))) := hdef
  clear hdef HD
  show Calls Try.prog 4 #[.agg #[.bool dir, .int .i64 mode, .string data, nv, kv], .int .i64 left] w _
  have HI : Hid (SzTreeC n) := ih
  have HN : Hid (StrsAt w lo hi nv names) := hN
  have HK : Hid (KidsAt (Rep w lo hi n) (headT n) w lo hi kv kids) := hK
  clear ih hN hK
  have HA : Hid (∀ o, Below w.heap.size w (w.alloc o)) := fun o => (Below.refl _ _).alloc (Nat.le_refl _) o
  by_cases hn1 : left - data.size < 0
  · go_enter Try.func4, Try.ntmps4
    go_wp2_with fail
    go_ret
    exact ⟨ret_int (by rw [HD'.out, if_pos hn1]), HA.out _⟩
  · have hle := szStrs_le names (left - data.size) (by omega)
    go_enter Try.func4, Try.ntmps4
    go_wp2_with fail
    refine (szStringS_any names nv _ _ lo hi (HN.out.keep (HA.out _) hhi) (by omega) (by omega)).mono ?_
    rintro e w1 ⟨rfl, rfl⟩
    by_cases hn2 : szStrs names (left - data.size) < 0
    · go_wp2_with fail
      go_ret
      exact ⟨ret_int (by rw [HD'.out, if_neg (by omega), if_pos hn2]), HA.out _⟩
    · go_wp2_with fail
      refine (szTreeS_any n HI.out kids kv _ _ lo hi (HK.out.keepB (HA.out _) hhi) (by simp; omega) (by omega) (by omega)).mono ?_
      rintro e w1 ⟨rfl, hB1⟩
      have HB1 : Hid (Below w.heap.size w w1) := (HA.out _).trans (hB1.mono (by simp))
      clear hB1
      by_cases hn3 : szKids (szT n) kids (szStrs names (left - data.size)) < 0
      · go_wp2_with fail
        go_ret
        exact ⟨ret_int (by rw [HD'.out, if_neg (by omega), if_neg (by omega), if_pos hn3]), HB1.out⟩
      · go_wp2_with fail
        go_ret
        exact ⟨ret_int (by rw [HD'.out, if_neg (by omega), if_neg (by omega), if_neg (by omega)]), HB1.out⟩

theorem szTree_any : ∀ n, SzTreeC n
  | 0 => fun t => Empty.elim (show Empty from t)
  | n + 1 => szTree_succ n (szTree_any n)

end Go.Proofs.Ytifbbbgcdklaaaa
