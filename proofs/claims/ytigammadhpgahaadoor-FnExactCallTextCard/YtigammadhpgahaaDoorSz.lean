/- The laws' own count of what an argument holds: szStringS, szTreeS, szTree answer szStrs, szKids, szT and write nothing that was there. -/
import Derived.Test.YtigammadhpgahaaDoorProg
import Derived.Test.YtigammadhpgahaaDoorRep
namespace Go.Proofs.YtigammadhpgahaaDoor
open Go.RowKit

theorem szLoop_drop (l : List ByteArray) (k : Nat) (h : k < l.length) (L : Int) : szLoop (l.drop k) L = if L - l[k].size < 0 then -1 else szLoop (l.drop (k + 1)) (L - l[k].size) := by
  rw [List.drop_eq_getElem_cons h, szLoop]

theorem ret_int {k : IntKind} {a b : Int} (h : a = b) : Ending.returned (.int k a) = .returned (.int k b) := by rw [h]

set_option maxHeartbeats 1000000 in
theorem szStringS_any (l : List ByteArray) (v : Value) (left : Int) (w : World) (lo hi : Nat) (hv : StrsAt w lo hi v l) (h0 : 0 ≤ left) (h1 : left ≤ 1048576) :
    Calls Tryd.prog 9 #[v, .int .i64 left] w fun e w' => e = .returned (.int .i64 (szStrs l left)) ∧ w' = w := by
  obtain ⟨a, cap, rfl, hl, hs, hc⟩ := hv
  unfold maxLen at hl hs
  by_cases hneg : left - l.length < 0
  · go_enter Tryd.func9, Tryd.ntmps9
    go_wp2
    go_ret
    exact ⟨by rw [szStrs, if_pos hneg]; rfl, rfl⟩
  · have HF : Hid (szStrs l left = szLoop (l.drop 0) (left - l.length)) := by show _ = _; rw [szStrs, if_neg hneg]; rfl
    go_enter Tryd.func9, Tryd.ntmps9
    go_wp2
    go_loop [1, 5] (fun x i => ∃ (k : Nat) (L : Int), k ≤ l.length ∧ i = .int .i64 k ∧ x = .int .i64 L ∧ 0 ≤ L ∧ L ≤ 1048576 ∧ Hid (szStrs l left = szLoop (l.drop k) L)) (fun _ i => l.length - (intOf i).toNat)
    case atStart => exact ⟨0, _, Nat.zero_le _, rfl, rfl, by omega, by omega, HF⟩
    case round =>
      obtain ⟨k, L, hk, rfl, rfl, hL0, hL1, HK⟩ := hrel
      clear HF
      by_cases hlt : k < l.length
      · obtain ⟨b, o, rfl, _, _, hcell⟩ := hc (by omega)
        have hck := hcell k hlt
        have hsk := hs k hlt
        have HE := szLoop_drop l k hlt L
        have HE' : Hid (szLoop (l.drop k) L = if L - l[k].size < 0 then -1 else szLoop (l.drop (k + 1)) (L - l[k].size)) := HE
        clear HE hc hcell hs
        by_cases hn : L - l[k].size < 0
        · go_wp2
          go_ret
          refine ⟨ret_int ?_, rfl⟩
          rw [HK.out, HE'.out, if_pos hn]
        · go_wp2
          go_round
          case rel => exact ⟨k + 1, _, by omega, by go_num, rfl, by omega, by omega, by show _ = _; rw [HK.out, HE'.out, if_neg hn]⟩
          case measure => simp [intOf]; omega
      · go_wp2
        go_ret
        refine ⟨ret_int ?_, rfl⟩
        rw [HK.out, List.drop_eq_nil_of_le (by omega), szLoop]

/-- A tree as one value. -/
abbrev aggT (n : Nat) (t : T n) (nv kv : Value) : Value := .agg #[.bool (headT n t).1, .int .i64 (headT n t).2.1, .string (headT n t).2.2, nv, kv]


theorem szKidsLoop_drop {α : Type} (f : α → Int → Int) (l : List α) (k : Nat) (h : k < l.length) (L : Int) : szKidsLoop f (l.drop k) L = if f l[k] L < 0 then -1 else szKidsLoop f (l.drop (k + 1)) (f l[k] L) := by
  rw [List.drop_eq_getElem_cons h, szKidsLoop]

theorem szLoop_le : ∀ (l : List ByteArray) (L : Int), 0 ≤ L → szLoop l L ≤ L
  | [], L, _ => Int.le_refl L
  | s :: r, L, h => by
    rw [szLoop]
    split
    · omega
    · have := szLoop_le r (L - s.size) (by omega); omega
theorem szStrs_le (l : List ByteArray) (L : Int) (h : 0 ≤ L) : szStrs l L ≤ L := by
  rw [szStrs]
  split
  · omega
  · have := szLoop_le l (L - l.length) (by omega); omega
theorem szKidsLoop_le {α : Type} (f : α → Int → Int) (hf : ∀ t L, 0 ≤ L → f t L ≤ L) : ∀ (l : List α) (L : Int), 0 ≤ L → szKidsLoop f l L ≤ L
  | [], L, _ => Int.le_refl L
  | t :: r, L, h => by
    rw [szKidsLoop]
    split
    · omega
    · have h1 := hf t L h
      have := szKidsLoop_le f hf r (f t L) (by omega); omega
theorem szKids_le {α : Type} (f : α → Int → Int) (hf : ∀ t L, 0 ≤ L → f t L ≤ L) (l : List α) (L : Int) (h : 0 ≤ L) : szKids f l L ≤ L := by
  rw [szKids]
  split
  · omega
  · have := szKidsLoop_le f hf l (L - l.length) (by omega); omega
theorem szT_le : ∀ (n : Nat) (t : T n) (L : Int), 0 ≤ L → szT n t L ≤ L
  | 0, _, L, _ => Int.le_refl L
  | n + 1, t, L, h => by
    rw [szT]
    split
    · omega
    · rename_i h1
      have a := szStrs_le t.names (L - t.data.size) (by omega)
      split
      · omega
      · rename_i h2
        have b := szKids_le (szT n) (szT_le n) t.kids (szStrs t.names (L - t.data.size)) (by omega)
        split <;> omega


theorem strsOfRep {w : World} {lo hi n : Nat} {t : T (n + 1)} {nv kv : Value} (h : Rep w lo hi (n + 1) t nv kv) : StrsAt w lo hi nv t.names := h.2.2.1
theorem kidsOfRep {w : World} {lo hi n : Nat} {t : T (n + 1)} {nv kv : Value} (h : Rep w lo hi (n + 1) t nv kv) : KidsAt (Rep w lo hi n) (headT n) w lo hi kv t.kids := h.2.2.2

theorem KidsAt.keepB {w w' : World} {lo hi B n : Nat} {v : Value} {l : List (T n)} (h : KidsAt (Rep w lo hi n) (headT n) w lo hi v l) (hb : Below B w w') (hB : hi ≤ B) : KidsAt (Rep w' lo hi n) (headT n) w' lo hi v l :=
  h.keep (Rep.keep hb hB n) hb hB


end Go.Proofs.YtigammadhpgahaaDoor
