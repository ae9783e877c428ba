/- Calls: the specification writes one. -/
import Derived.Test.YtigammadhpgahaaDoorCallB
import Derived.Test.YtigammadhpgahaaDoorHexL
import Derived.Test.YtigammadhpgahaaDoorDecN
import Derived.Test.YtigammadhpgahaaDoorTxtP
import Derived.Deep.RegionLaw
import Derived.Deep.RegionWith
import Derived.Deep.Cut
import Derived.Deep.CutRange
namespace Go.Proofs.YtigammadhpgahaaDoor
open Go.RowKit

/-- A call's word. -/
def wordC (k : Int) : ByteArray :=
  if k = 1 then ⟨#[109, 107, 100, 105, 114]⟩ else if k = 2 then ⟨#[119, 114, 105, 116, 101]⟩ else if k = 3 then ⟨#[116, 114, 117, 110, 99, 97, 116, 101]⟩
  else if k = 4 then ⟨#[114, 101, 109, 111, 118, 101]⟩ else if k = 5 then ⟨#[114, 101, 110, 97, 109, 101]⟩ else ⟨#[99, 104, 109, 111, 100]⟩
/-- A call's text: of its path's text, its other path's, its number's and its data's. -/
def textQ (k : Int) (sp st sn sx : ByteArray) : ByteArray :=
  if k = 1 ∨ k = 3 ∨ k = 6 then wordC k ++ ⟨#[32]⟩ ++ sp ++ ⟨#[32]⟩ ++ sn
  else if k = 2 then wordC k ++ ⟨#[32]⟩ ++ sp ++ ⟨#[32]⟩ ++ sn ++ ⟨#[32]⟩ ++ sx
  else if k = 5 then wordC k ++ ⟨#[32]⟩ ++ sp ++ ⟨#[32]⟩ ++ st
  else wordC k ++ ⟨#[32]⟩ ++ sp
def textW (k : Int) (wd sp st sn sx : ByteArray) : ByteArray :=
  if k = 1 ∨ k = 3 ∨ k = 6 then wd ++ ⟨#[32]⟩ ++ sp ++ ⟨#[32]⟩ ++ sn
  else if k = 2 then wd ++ ⟨#[32]⟩ ++ sp ++ ⟨#[32]⟩ ++ sn ++ ⟨#[32]⟩ ++ sx
  else if k = 5 then wd ++ ⟨#[32]⟩ ++ sp ++ ⟨#[32]⟩ ++ st
  else wd ++ ⟨#[32]⟩ ++ sp
def WORDS42 : Array Value := #[.string ⟨#[]⟩, .string (wordC 1), .string (wordC 2), .string (wordC 3), .string (wordC 4), .string (wordC 5), .string (wordC 6)]

theorem words_at (k : Nat) (v : Value) (h : WORDS42[k]? = some v) (W : World) : (W.alloc (.cells WORDS42 9)).cell? ⟨W.heap.size, k, none⟩ = some v := (Blk.new W WORDS42 9).cell k v h

theorem l42Words_any (w : World) : Calls Tryd.prog 11 #[] w fun e w' => e = .returned (.slice (some ⟨w.heap.size, 0, none⟩) 7 7) ∧ w' = w.alloc (.cells WORDS42 9) := by
  go_enter Tryd.func11, Tryd.ntmps11
  go_wp2_with fail
  go_ret
  exact ⟨rfl, rfl⟩

/-- A call that has a text. -/
def saidB (c : Cl) : Bool := callB c && !(decide (c.kind = 2) && decide (24 < c.data.size))

abbrev boxC (kind num : Int) (pa : Option Addr) (pl pc : Nat) (ta : Option Addr) (tl tc : Nat) (x : ByteArray) : Obj := .cells #[.int .i64 kind, .slice pa pl pc, .slice ta tl tc, .int .i64 num, .string x] 27

set_option maxRecDepth 100000 in
set_option maxHeartbeats 8000000 in
theorem specText_at (kind num : Int) (pl tl : Nat) (x sp st sn sx : ByteArray) (pa : Option Addr) (pc : Nat) (ta : Option Addr) (tc : Nat) (b : Bool) (w : World)
    (hk : b = true → 1 ≤ kind ∧ kind ≤ 6) (hx : x.size ≤ maxLen)
    (hsp : sp.size ≤ 100) (hst : st.size ≤ 100) (hsn : sn.size ≤ 100) (hsx : sx.size ≤ 100)
    (hC : ∀ o, Calls Tryd.prog 10 #[.agg #[.int .i64 kind, .slice pa pl pc, .slice ta tl tc, .int .i64 num, .string x]] (w.alloc o) fun e w' => e = .returned (.bool b) ∧ Below (w.alloc o).heap.size (w.alloc o) w')
    (hN : b = true → ∀ W, Below w.heap.size w W → Calls Tryd.prog 12 #[.slice pa pl pc] W fun e w' => e = .returned (.string sp) ∧ w' = W)
    (hT : b = true → kind = 5 → ∀ W, Below w.heap.size w W → Calls Tryd.prog 12 #[.slice ta tl tc] W fun e w' => e = .returned (.string st) ∧ w' = W)
    (hD : b = true → (kind ≠ 4 ∧ kind ≠ 5) → ∀ W, Calls Tryd.prog 13 #[.int .i64 num] W fun e w' => e = .returned (.string sn) ∧ Below W.heap.size W w')
    (hX : b = true → kind = 2 → x.size ≤ 24 → ∀ W, Calls Tryd.prog 14 #[.string x] W fun e w' => e = .returned (.string sx) ∧ Below W.heap.size W w') :
    Calls Tryd.prog 5 #[.agg #[.int .i64 kind, .slice pa pl pc, .slice ta tl tc, .int .i64 num, .string x]] w fun e w' => e = .returned (.string (if (b && !(decide (kind = 2) && decide (24 < x.size))) = true then textQ kind sp st sn sx else ⟨#[]⟩)) ∧ Below w.heap.size w w' := by
  unfold maxLen at hx
  have HC := hide (hC (boxC kind num pa pl pc ta tl tc x))
  have HA : Hid (Below w.heap.size w (w.alloc (boxC kind num pa pl pc ta tl tc x)) ∧ Blk (w.alloc (boxC kind num pa pl pc ta tl tc x)) w.heap.size #[.int .i64 kind, .slice pa pl pc, .slice ta tl tc, .int .i64 num, .string x] 27) := ⟨(Below.refl _ _).alloc (Nat.le_refl _) _, Blk.new _ _ _⟩
  have HK := hide hk
  have HN := hide hN
  have HT := hide hT
  have HD := hide hD
  have HX := hide hX
  clear hk hC hN hT hD hX
  obtain ⟨V, hV⟩ : ∃ V : ByteArray, V = (if (b && !(decide (kind = 2) && decide (24 < x.size))) = true then textQ kind sp st sn sx else ⟨#[]⟩) := ⟨_, rfl⟩
  rw [← hV]
  have HV := hide hV
  clear hV
  go_enter Tryd.func5, Tryd.ntmps5
  go_wp2_with fail
  refine HC.out.mono ?_
  rintro e w1 ⟨rfl, hB1⟩
  have HB1 : Hid (Below w.heap.size w w1 ∧ Blk w1 w.heap.size #[.int .i64 kind, .slice pa pl pc, .slice ta tl tc, .int .i64 num, .string x] 27) := ⟨HA.out.1.trans (hB1.mono HA.out.1.size), HA.out.2.below hB1 HA.out.2.lt⟩
  clear hB1 HC HA
  have x0 := HB1.out.2.cell 0 _ rfl
  have x1 := HB1.out.2.cell 1 _ rfl
  have x2 := HB1.out.2.cell 2 _ rfl
  have x3 := HB1.out.2.cell 3 _ rfl
  have x4 := HB1.out.2.cell 4 _ rfl
  have xl := HB1.out.2.lt
  cases b with
  | false =>
    go_wp2_with fail
    go_ret
    exact ⟨by rw [HV.out]; rfl, HB1.out.1⟩
  | true =>
    obtain ⟨hk1, hk2⟩ := HK.out rfl
    have HN1 := hide (HN.out rfl)
    have HT1 := hide (HT.out rfl)
    have HD1 := hide (HD.out rfl)
    have HX1 := hide (HX.out rfl)
    clear HN HT HD HX HK
    by_cases hbig : kind = 2 ∧ 24 < x.size
    · obtain ⟨rfl, hbig⟩ := hbig
      have hbI : (24 : Int) < (x.size : Int) := by omega
      have HV2 : Hid (V = ⟨#[]⟩) := by show _ = _; rw [HV.out]; simp [hbig]
      clear HV
      go_wp2_with fail
      go_ret
      exact ⟨by rw [HV2.out]; rfl, HB1.out.1⟩
    · have HV2 : Hid (V = textQ kind sp st sn sx) := by
        show _ = _
        rw [HV.out, if_pos]
        have : (decide (kind = 2) && decide (24 < x.size)) = false := by
          rw [Bool.and_eq_false_iff]
          by_cases h2 : kind = 2
          · right; simp; omega
          · left; simpa using h2
        rw [this]; rfl
      clear HV
      have HC2 : Hid (∀ W, Below w1.heap.size w1 W → Below w.heap.size w W ∧ Blk W w.heap.size #[.int .i64 kind, .slice pa pl pc, .slice ta tl tc, .int .i64 num, .string x] 27) := fun W hW => ⟨HB1.out.1.trans (hW.mono HB1.out.1.size), HB1.out.2.below hW HB1.out.2.lt⟩
      have HBa : Hid (∀ o, Below w1.heap.size w1 (w1.alloc o)) := fun o => (Below.refl _ _).alloc (Nat.le_refl _) o
      have HBA : Hid (∀ o, Below w.heap.size w (w1.alloc o)) := fun o => HB1.out.1.alloc HB1.out.1.size o
      have HBD : Hid (∀ o, Below w.heap.size w (w1.drew.alloc o)) := fun o => HB1.out.1.drew.alloc HB1.out.1.size o
      obtain ⟨k, rfl⟩ : ∃ k : Nat, kind = (k : Int) := ⟨kind.toNat, by omega⟩
      have hk7 : (k : Int) < 7 := by omega
      obtain ⟨wd, HW, hwd, hc1⟩ : ∃ wd : ByteArray, Hid (wordC (k : Int) = wd) ∧ wd.size ≤ 8 ∧ ∀ W : World, (W.alloc (.cells WORDS42 9)).cell? ⟨W.heap.size, k, none⟩ = some (.string wd) := by
        obtain rfl | rfl | rfl | rfl | rfl | rfl : k = 1 ∨ k = 2 ∨ k = 3 ∨ k = 4 ∨ k = 5 ∨ k = 6 := by omega
        · exact ⟨wordC 1, rfl, by decide, words_at 1 _ rfl⟩
        · exact ⟨wordC 2, rfl, by decide, words_at 2 _ rfl⟩
        · exact ⟨wordC 3, rfl, by decide, words_at 3 _ rfl⟩
        · exact ⟨wordC 4, rfl, by decide, words_at 4 _ rfl⟩
        · exact ⟨wordC 5, rfl, by decide, words_at 5 _ rfl⟩
        · exact ⟨wordC 6, rfl, by decide, words_at 6 _ rfl⟩
      have HV3 : Hid (V = textW (k : Int) wd sp st sn sx) := by
        show _ = _
        rw [HV2.out, ← HW.out]
        rfl
      clear HV2 HW
      have hc2 : ∀ W : World, (W.drew.alloc (.cells WORDS42 9)).cell? ⟨W.heap.size, k, none⟩ = some (.string wd) := fun W => hc1 W.drew
      have k1 : ¬ 9223372036854775807 < wd.size + 1 := by omega
      have k2 : ¬ 9223372036854775807 < wd.size + 1 + sp.size := by omega
      have hb24 : ((k : Int) == 2 && decide (24 < (x.size : Int))) = false := by
        rw [Bool.and_eq_false_iff]
        by_cases h2 : (k : Int) = 2
        · right; simp; omega
        · left; simpa using h2
      have HS : Hid (∃ s : ByteArray, wd ++ ⟨#[32]⟩ ++ sp = s ∧ s.size ≤ 109) := ⟨_, rfl, by rw [ByteArray.size_append, ByteArray.size_append]; show wd.size + 1 + sp.size ≤ 109; omega⟩
      by_cases h2 : (k : Int) = 2
      case pos =>
        obtain rfl : k = 2 := by omega
        have hxs : ¬ (24 : Int) < (x.size : Int) := by omega
        go_upto_region 3 with fail
        go_cut [3] from 18 to 27 (fun s wx => s = .string (wd ++ ⟨#[32]⟩ ++ sp) ∧ Hid (Below w1.heap.size w1 wx))
        case first =>
          go_region_with (first
            | (go_at_call 11; refine (l42Words_any _).mono ?_; rintro e w2 ⟨rfl, rfl⟩)
            | (go_at_call 12; refine (HN1.out _ (by first | exact HB1.out.1 | exact HB1.out.1.drew | exact HBA.out _ | exact (HBA.out _).drew | exact HBD.out _ | exact (HBD.out _).drew)).mono ?_; rintro e w2 ⟨rfl, rfl⟩))
          all_goals
            go_wp2_with fail
            go_meet
            exact ⟨rfl, by first | exact HBa.out _ | exact (HBa.out _).drew⟩
        case rest =>
          obtain ⟨rfl, HB⟩ := hcut
          rename World => w5
          obtain ⟨hb5, q5⟩ := HC2.out w5 HB.out
          have HQ5 := hide q5
          have HB5 := hide hb5
          obtain ⟨s, hs, hsz⟩ := HS.out
          have HV4 : Hid (V = s ++ ⟨#[32]⟩ ++ sn ++ ⟨#[32]⟩ ++ sx) := by show _ = _; rw [HV3.out, ← hs]; rfl
          rw [hs]
          have HD2 := hide (HD1.out (by decide))
          have HX2 := hide (HX1.out rfl (by omega))
          clear hs HS HV3 hc1 hc2 k1 k2 HC2 HBa HBA HBD HN1 HT1 HD1 HX1 x0 x1 x2 x3 x4 hb24 h2 hxs hb5 q5 hbig
          have y0 := HQ5.out.cell 0 _ rfl
          have y3 := HQ5.out.cell 3 _ rfl
          have y4 := HQ5.out.cell 4 _ rfl
          have yl := HQ5.out.lt
          have k3 : ¬ 9223372036854775807 < s.size + 1 := by omega
          have k4 : ¬ 9223372036854775807 < s.size + 1 + sn.size := by omega
          have k5 : ¬ 9223372036854775807 < s.size + 1 + sn.size + 1 := by omega
          have k6 : ¬ 9223372036854775807 < s.size + 1 + sn.size + 1 + sx.size := by omega
          have HW : ∀ (w1 : World), Below w5.heap.size w5 w1 → w1.cell? ⟨w.heap.size, 4, none⟩ = some (.string x) ∧ Hid (Below w.heap.size w w1) := fun w1 hb => ⟨(HQ5.out.below hb HQ5.out.lt).cell 4 _ rfl, HB5.out.trans (hb.mono HB5.out.size)⟩
          have HB6 : Hid (Below w5.heap.size w5 w5 ∧ Below w5.heap.size w5 w5.drew) := ⟨Below.refl _ _, (Below.refl _ _).drew⟩
          go_wp2_with fail
          go_region_law (first
            | (rw [if_pos (by simp [Region.wanted])]; go_simp; go_at_call 13; refine (HD2.out _).mono ?_; rintro e w6 ⟨rfl, hb1⟩; obtain ⟨hc6, HB6⟩ := HW w6 (by first | exact hb1 | exact undrewB hb1); clear hb1)
            | (rw [if_pos (by simp [Region.wanted])]; go_simp; go_at_call 14; refine (HX2.out _).mono ?_; rintro e w7 ⟨rfl, hb2⟩; have HB7 : Hid (Below w.heap.size w w7) := HB6.out.trans (hb2.mono HB6.out.size); clear hb2)
            | (go_at_call 13; refine (HD2.out _).mono ?_; rintro e w6 ⟨rfl, hb1⟩; obtain ⟨hc6, HB6⟩ := HW w6 (by first | exact hb1 | exact undrewB hb1); clear hb1)
            | (go_at_call 14; refine (HX2.out _).mono ?_; rintro e w7 ⟨rfl, hb2⟩; have HB7 : Hid (Below w.heap.size w w7) := HB6.out.trans (hb2.mono HB6.out.size); clear hb2))
          all_goals
            go_wp2_with fail
            go_ret
            exact ⟨by rw [HV4.out]; rfl, HB7.out⟩
      case neg =>
        have h2b : ((k : Int) == 2) = false := by simpa using h2
        go_upto_region 3 with fail
        go_cut [3] from 18 to 27 (fun s wx => s = .string (wd ++ ⟨#[32]⟩ ++ sp) ∧ Hid (Below w1.heap.size w1 wx))
        case first =>
          go_region_with (first
            | (go_at_call 11; refine (l42Words_any _).mono ?_; rintro e w2 ⟨rfl, rfl⟩)
            | (go_at_call 12; refine (HN1.out _ (by first | exact HB1.out.1 | exact HB1.out.1.drew | exact HBA.out _ | exact (HBA.out _).drew | exact HBD.out _ | exact (HBD.out _).drew)).mono ?_; rintro e w2 ⟨rfl, rfl⟩))
          all_goals
            go_wp2_with fail
            go_meet
            exact ⟨rfl, by first | exact HBa.out _ | exact (HBa.out _).drew⟩
        case rest =>
          obtain ⟨rfl, HB⟩ := hcut
          rename World => w5
          obtain ⟨hb5, q5⟩ := HC2.out w5 HB.out
          have HQ5 := hide q5
          have HB5 := hide hb5
          obtain ⟨s, hs, hsz⟩ := HS.out
          have HV4 : Hid (V = (if (k : Int) = 1 ∨ (k : Int) = 3 ∨ (k : Int) = 6 then s ++ ⟨#[32]⟩ ++ sn else if (k : Int) = 5 then s ++ ⟨#[32]⟩ ++ st else s)) := by
            show _ = _
            rw [HV3.out, ← hs, textW]
            split
            · rfl
            · rfl
          have hk5 : k = 1 ∨ k = 3 ∨ k = 6 ∨ k = 4 ∨ k = 5 := by omega
          rw [hs]
          clear hs HS HV3 hc1 hc2 k1 k2 HC2 HBa HBA HBD HN1 HX1 x0 x1 x2 x3 x4 hb24 h2 h2b hb5 q5 hbig
          have y0 := HQ5.out.cell 0 _ rfl
          have y2 := HQ5.out.cell 2 _ rfl
          have y3 := HQ5.out.cell 3 _ rfl
          have yl := HQ5.out.lt
          have k3 : ¬ 9223372036854775807 < s.size + 1 := by omega
          have k4 : ¬ 9223372036854775807 < s.size + 1 + sn.size := by omega
          have k5 : ¬ 9223372036854775807 < s.size + 1 + st.size := by omega
          obtain rfl | rfl | rfl | rfl | rfl := hk5
          case inr.inr.inr.inl =>
            go_wp2_with fail
            go_ret
            exact ⟨by rw [HV4.out]; rfl, HB5.out⟩
          case inr.inr.inr.inr =>
            have HT2 := hide (HT1.out rfl w5 HB5.out)
            clear HD1 HT1
            go_wp2_with (go_at_call 12; refine HT2.out.mono ?_; rintro e w6 ⟨rfl, rfl⟩)
            go_ret
            exact ⟨by rw [HV4.out]; rfl, HB5.out⟩
          all_goals
            have HD2 := hide (HD1.out (by decide) w5)
            clear HD1 HT1
            go_wp2_with (go_at_call 13; refine HD2.out.mono ?_; rintro e w6 ⟨rfl, hB6⟩; have HB6 : Hid (Below w.heap.size w w6) := HB5.out.trans (hB6.mono HB5.out.size); clear hB6)
            go_ret
            exact ⟨by rw [HV4.out]; rfl, HB6.out⟩

end Go.Proofs.YtigammadhpgahaaDoor
