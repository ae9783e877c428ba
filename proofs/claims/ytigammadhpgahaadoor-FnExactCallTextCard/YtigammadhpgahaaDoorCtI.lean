/- Calls: the program writes one. -/
import Derived.Test.YtigammadhpgahaaDoorCtS
import Derived.Test.YtigammadhpgahaaDoorPathT
import Derived.Test.YtigammadhpgahaaDoorDataT
import Derived.Test.YtigammadhpgahaaDoorCtJ
import Derived.Deep.Cut
import Derived.Deep.CutRange
namespace Go.Proofs.YtigammadhpgahaaDoor
open Go.RowKit

def CFORMS : Array Value := #[.string ⟨#[]⟩, .bool false, .bool false, .bool false, .string (wordC 1), .bool false, .bool true, .bool false, .string (wordC 2), .bool false, .bool true, .bool true, .string (wordC 3), .bool false, .bool true, .bool false, .string (wordC 4), .bool false, .bool false, .bool false, .string (wordC 5), .bool true, .bool false, .bool false, .string (wordC 6), .bool false, .bool true, .bool false]
/-- The package variable holds the program's table. -/
def CFormsAt (w : World) : Prop := ∃ t fr, w.heap[0]? = some (.cells CFORMS t fr)
theorem CFormsAt.lt {w : World} (h : CFormsAt w) : 0 < w.heap.size := by
  obtain ⟨t, fr, h⟩ := h
  exact (Array.getElem?_eq_some_iff.1 h).1
theorem CFormsAt.keep {w w' : World} (h : CFormsAt w) (hb : Below w.heap.size w w') : CFormsAt w' := by
  have h0 := h.lt
  obtain ⟨t, fr, h⟩ := h
  exact ⟨t, fr, (hb.block 0 h0).trans h⟩
theorem CFormsAt.cell {w : World} (h : CFormsAt w) (j : Nat) (v : Value) (hv : CFORMS[j]? = some v) : w.cell? ⟨0, j, none⟩ = some v := by
  obtain ⟨t, fr, h⟩ := h
  simp [World.cell?, h, hv]


abbrev formO (wd : ByteArray) (bt ba bd : Bool) : Obj := .cells #[.string wd, .bool bt, .bool ba, .bool bd] 39
/-- What a kind's call has in the table. -/
def formC (k : Nat) : Bool × Bool × Bool := if k = 1 ∨ k = 3 ∨ k = 6 then (false, true, false) else if k = 2 then (false, true, true) else if k = 5 then (true, false, false) else (false, false, false)

set_option maxRecDepth 100000 in
set_option maxHeartbeats 2000000 in
theorem implText_at (kind num : Int) (pl tl : Nat) (x sp st sn sx : ByteArray) (pa : Option Addr) (pc : Nat) (ta : Option Addr) (tc : Nat) (b : Bool) (w : World)
    (hk : b = true → 1 ≤ kind ∧ kind ≤ 6) (hx : x.size ≤ maxLen)
    (hsp : sp.size ≤ 100) (hst : st.size ≤ 100) (hsn : sn.size ≤ 100) (hsx : sx.size ≤ 100) (hF : CFormsAt w)
    (hC : ∀ o, Calls Tryd.prog 16 #[.agg #[.int .i64 kind, .slice pa pl pc, .slice ta tl tc, .int .i64 num, .string x]] (w.alloc o) fun e w' => e = .returned (.bool b) ∧ Below (w.alloc o).heap.size (w.alloc o) w')
    (hN : b = true → ∀ W, Below w.heap.size w W → Calls Tryd.prog 17 #[.slice pa pl pc] W fun e w' => e = .returned (.string sp) ∧ Below W.heap.size W w')
    (hT : b = true → kind = 5 → ∀ W, Below w.heap.size w W → Calls Tryd.prog 17 #[.slice ta tl tc] W fun e w' => e = .returned (.string st) ∧ Below W.heap.size W w')
    (hD : b = true → (kind ≠ 4 ∧ kind ≠ 5) → ∀ W, Calls Tryd.prog 18 #[.int .i64 num] W fun e w' => e = .returned (.string sn) ∧ Below W.heap.size W w')
    (hX : b = true → kind = 2 → x.size ≤ 24 → ∀ W, Calls Tryd.prog 19 #[.string x] W fun e w' => e = .returned (.string sx) ∧ Below W.heap.size W w') :
    Calls Tryd.prog 7 #[.agg #[.int .i64 kind, .slice pa pl pc, .slice ta tl tc, .int .i64 num, .string x]] w fun e w' => e = .returned (.string (if (b && !(decide (kind = 2) && decide (24 < x.size))) = true then textQ kind sp st sn sx else ⟨#[]⟩)) ∧ Below w.heap.size w w' := by
  unfold maxLen at hx
  have HC := hide (hC (boxC kind num pa pl pc ta tl tc x))
  have HA : Hid (Below w.heap.size w (w.alloc (boxC kind num pa pl pc ta tl tc x)) ∧ Blk (w.alloc (boxC kind num pa pl pc ta tl tc x)) w.heap.size #[.int .i64 kind, .slice pa pl pc, .slice ta tl tc, .int .i64 num, .string x] 27) := ⟨(Below.refl _ _).alloc (Nat.le_refl _) _, Blk.new _ _ _⟩
  have HF := hide hF
  have HFl := hide hF.lt
  have HK := hide hk
  have HN := hide hN
  have HT := hide hT
  have HD := hide hD
  have HX := hide hX
  clear hk hC hN hT hD hX hF
  obtain ⟨V, hV⟩ : ∃ V : ByteArray, V = (if (b && !(decide (kind = 2) && decide (24 < x.size))) = true then textQ kind sp st sn sx else ⟨#[]⟩) := ⟨_, rfl⟩
  rw [← hV]
  have HV := hide hV
  clear hV
  go_enter Tryd.func7, Tryd.ntmps7
  go_wp2_with fail
  refine HC.out.mono ?_
  rintro e w1 ⟨rfl, hB1⟩
  have HB1 : Hid (Below w.heap.size w w1 ∧ Blk w1 w.heap.size #[.int .i64 kind, .slice pa pl pc, .slice ta tl tc, .int .i64 num, .string x] 27) := ⟨HA.out.1.trans (hB1.mono HA.out.1.size), HA.out.2.below hB1 HA.out.2.lt⟩
  clear hB1 HC HA
  have x0 := HB1.out.2.cell 0 _ rfl
  have x1 := HB1.out.2.cell 1 _ rfl
  have x2 := HB1.out.2.cell 2 _ rfl
  have x3 := HB1.out.2.cell 3 _ rfl
  have x4 := HB1.out.2.cell 4 _ rfl
  have xl := HB1.out.2.lt
  cases b with
  | false =>
    go_wp2_with fail
    go_ret
    exact ⟨by rw [HV.out]; rfl, HB1.out.1⟩
  | true =>
    obtain ⟨hk1, hk2⟩ := HK.out rfl
    have HN1 := hide (HN.out rfl)
    have HT1 := hide (HT.out rfl)
    have HD1 := hide (HD.out rfl)
    have HX1 := hide (HX.out rfl)
    clear HN HT HD HX HK
    by_cases hbig : kind = 2 ∧ 24 < x.size
    · obtain ⟨rfl, hbig⟩ := hbig
      have hbI : (24 : Int) < (x.size : Int) := by omega
      have HV2 : Hid (V = ⟨#[]⟩) := by show _ = _; rw [HV.out]; simp [hbig]
      clear HV
      go_wp2_with fail
      go_ret
      exact ⟨by rw [HV2.out]; rfl, HB1.out.1⟩
    · have HV2 : Hid (V = textQ kind sp st sn sx) := by
        show _ = _
        rw [HV.out, if_pos]
        have : (decide (kind = 2) && decide (24 < x.size)) = false := by
          rw [Bool.and_eq_false_iff]
          by_cases h2 : kind = 2
          · right; simp; omega
          · left; simpa using h2
        rw [this]; rfl
      clear HV
      have HF1 := hide (HF.out.keep HB1.out.1)
      have f0 : 0 < w1.heap.size := by have := HFl.out; omega
      obtain ⟨k, rfl⟩ : ∃ k : Nat, kind = (k : Int) := ⟨kind.toNat, by omega⟩
      obtain ⟨wd, bt, ba, bd, HW, hwd, HE, c0, c1, c2, c3⟩ : ∃ (wd : ByteArray) (bt ba bd : Bool), Hid (wordC (k : Int) = wd) ∧ wd.size ≤ 8 ∧ Hid ((bt, ba, bd) = formC k) ∧ w1.cell? ⟨0, k * 4, none⟩ = some (.string wd) ∧ w1.cell? ⟨0, k * 4 + 1, none⟩ = some (.bool bt) ∧ w1.cell? ⟨0, k * 4 + 2, none⟩ = some (.bool ba) ∧ w1.cell? ⟨0, k * 4 + 3, none⟩ = some (.bool bd) := by
        obtain rfl | rfl | rfl | rfl | rfl | rfl : k = 1 ∨ k = 2 ∨ k = 3 ∨ k = 4 ∨ k = 5 ∨ k = 6 := by omega
        all_goals exact ⟨_, _, _, _, rfl, by decide, rfl, HF1.out.cell _ _ rfl, HF1.out.cell _ _ rfl, HF1.out.cell _ _ rfl, HF1.out.cell _ _ rfl⟩
      have HV3 : Hid (V = textW (k : Int) wd sp st sn sx) := by
        show _ = _
        rw [HV2.out, ← HW.out]
        rfl
      clear HV2 HW HF HF1 HFl
      have hk7 : (k : Int) < 7 := by omega
      have hxs : (k : Int) = 2 → ¬ (24 : Int) < (x.size : Int) := by omega
      have HC2 : Hid (∀ W, Below w1.heap.size w1 W → Below w.heap.size w W ∧ Blk W w.heap.size #[.int .i64 (k : Int), .slice pa pl pc, .slice ta tl tc, .int .i64 num, .string x] 27) := fun W hW => ⟨HB1.out.1.trans (hW.mono HB1.out.1.size), HB1.out.2.below hW HB1.out.2.lt⟩
      have HW3 : Hid (∀ {W}, Below (w1.alloc (formO wd bt ba bd)).heap.size (w1.alloc (formO wd bt ba bd)) W → Below (w1.heap.size + 1) (w1.alloc (formO wd bt ba bd)) W) := fun h => h.mono (by simp)
      have HBA : Hid (Below w.heap.size w (w1.alloc (formO wd bt ba bd))) := HB1.out.1.alloc HB1.out.1.size _
      have HEnd : Hid (∀ W, Below (w1.heap.size + 1) (w1.alloc (formO wd bt ba bd)) W → Below w.heap.size w W) := fun W h => HBA.out.trans (h.mono (by have := HB1.out.1.size; omega))
      have HCel : Hid (∀ W, Below (w1.heap.size + 1) (w1.alloc (formO wd bt ba bd)) W → W.cell? ⟨w1.heap.size, 0, none⟩ = some (.string wd) ∧ W.cell? ⟨w1.heap.size, 1, none⟩ = some (.bool bt) ∧ W.cell? ⟨w1.heap.size, 2, none⟩ = some (.bool ba) ∧ W.cell? ⟨w1.heap.size, 3, none⟩ = some (.bool bd) ∧ W.cell? ⟨w.heap.size, 0, none⟩ = some (.int .i64 (k : Int)) ∧ W.cell? ⟨w.heap.size, 1, none⟩ = some (.slice pa pl pc) ∧ W.cell? ⟨w.heap.size, 2, none⟩ = some (.slice ta tl tc) ∧ W.cell? ⟨w.heap.size, 3, none⟩ = some (.int .i64 num) ∧ W.cell? ⟨w.heap.size, 4, none⟩ = some (.string x)) := fun W h => by
        have q1 := (Blk.new w1 #[.string wd, .bool bt, .bool ba, .bool bd] 39).below h (by omega)
        have q2 := (HB1.out.2.alloc (formO wd bt ba bd)).below h (by omega)
        exact ⟨q1.cell 0 _ rfl, q1.cell 1 _ rfl, q1.cell 2 _ rfl, q1.cell 3 _ rfl, q2.cell 0 _ rfl, q2.cell 1 _ rfl, q2.cell 2 _ rfl, q2.cell 3 _ rfl, q2.cell 4 _ rfl⟩
      obtain ⟨iS, hiS', hzS, hsS, hbS⟩ := info_S
      have hiS := hide hiS'
      clear hiS'
      have hcase : (k : Int) = 2 ∨ ¬ ((k : Int) = 2) := by omega
      rcases hcase with h2 | h2
      case inl =>
        obtain rfl : k = 2 := by omega
        have hxs2 : ¬ (24 : Int) < (x.size : Int) := by omega
        have HV4 : Hid (V = wd ++ ⟨#[32]⟩ ++ sp ++ ⟨#[32]⟩ ++ sn ++ ⟨#[32]⟩ ++ sx) := by show _ = _; rw [HV3.out]; rfl
        have HD2 := hide (HD1.out (by decide))
        have HX2 := hide (HX1.out rfl (by omega))
        obtain ⟨rfl, rfl, rfl⟩ : bt = false ∧ ba = true ∧ bd = true := by simpa [formC] using HE.out
        clear h2 hxs HV3 HE HD1 HX1 HT1 hbig
        go_upto_region 4 with fail
        go_cut [4] from 23 to 28 (fun s wx => ∃ g, s = .slice (some ⟨g, 0, none⟩) 2 2 ∧ Hid (WdR (w1.heap.size + 1) (w1.alloc (formO wd false true true)) (.slice (some ⟨g, 0, none⟩) 2 2) [wd, sp] wx))
        case first =>
          go_region_with (go_at_call 17; refine (HN1.out _ (by first | exact HBA.out | exact HBA.out.drew)).mono ?_; rintro e w2 ⟨rfl, hB2⟩; have HB2 : Hid (Below (w1.heap.size + 1) (w1.alloc (formO wd false true true)) w2) := HW3.out (by first | exact hB2 | exact undrewB hB2); obtain ⟨d0, _, _, _, _, d1, _⟩ := HCel.out w2 HB2.out; clear hB2)
          all_goals
            go_wp2_with fail
            go_meet
            exact ⟨_, rfl, WdR.two wd sp HB2.out (by simp)⟩
        case rest =>
          obtain ⟨g, rfl, HR⟩ := hcut
          rename World => w5
          obtain ⟨_, y1, y2, y3, z0, z1, z2, z3, z4⟩ := HCel.out w5 HR.out.below
          have HZ : Hid (w1.heap.size < w5.heap.size ∧ w.heap.size < w5.heap.size) := by have := HR.out.le; exact ⟨by omega, by omega⟩
          obtain ⟨hz1, hz2⟩ := HZ.out
          clear HN1
          go_wp2_with (first
            | (go_at_call 18; refine (HD2.out _).mono ?_; rintro e w6 ⟨rfl, hB6⟩; have HR6 := hide (HR.out.step hB6); clear hB6)
            | (go_at_call 19; refine (HX2.out _).mono ?_; rintro e w8 ⟨rfl, hB8⟩; have HR8 := hide (HR7.out.step hB8); clear hB8)
            | (go_at_call 20; with_reducible refine HJ10.out.mono ?_; rintro e w9 ⟨rfl, hB9⟩; have HB9 := hide (HEnd.out _ (HR10.out.step hB9).below); clear hB9)
            | (at_builtin; refine wpList_append_own _ rfl _ _ 22 rfl (w1.heap.size + 1) 9 iS (.string ⟨#[]⟩) 1 16 Tryd.underlying22 hiS.out hzS hsS hbS rfl (by decide) _ 3 _ rfl (HR8.out.row.alloc _) ⟨_, 0, none⟩ 1 1 [.string sx] rfl (by simp) (cell_one_new _ _ _) (by simp [Value.oneCell']) (by unfold maxLen; omega) (by omega) (by have := HR8.out.le; simp; omega) ?_; intro b10 w10 hown hgrow hnil; have HR10 : Hid (WdR _ _ b10 [wd, sp, sn, sx] w10) := HR8.out.app (y := sx) hown hgrow; have HJ10 : Hid (Calls Tryd.prog 20 #[b10, .string ⟨#[32]⟩] w10 fun e w' => e = .returned (.string (wd ++ ⟨#[32]⟩ ++ sp ++ ⟨#[32]⟩ ++ sn ++ ⟨#[32]⟩ ++ sx)) ∧ Below w10.heap.size w10 w') := joinW_any _ HR10.out (Nat.succ_pos _) (join4 wd sp sn sx) (by rw [ByteArray.size_append, ByteArray.size_append, ByteArray.size_append, ByteArray.size_append, ByteArray.size_append, ByteArray.size_append]; show wd.size + 1 + sp.size + 1 + sn.size + 1 + sx.size ≤ 1000; omega) (by show 4 ≤ 4; omega); clear hown hgrow hnil; obtain ⟨_, u110, u210, u310, n010, n110, n210, n310, n410⟩ := HCel.out w10 HR10.out.below; obtain ⟨m110, m210⟩ : w1.heap.size < w10.heap.size ∧ w.heap.size < w10.heap.size := by have := HR10.out.le; exact ⟨by omega, by omega⟩)
            | (at_builtin; refine wpList_append_own _ rfl _ _ 22 rfl (w1.heap.size + 1) 9 iS (.string ⟨#[]⟩) 1 16 Tryd.underlying22 hiS.out hzS hsS hbS rfl (by decide) _ 2 _ rfl (HR6.out.row.alloc _) ⟨_, 0, none⟩ 1 1 [.string sn] rfl (by simp) (cell_one_new _ _ _) (by simp [Value.oneCell']) (by unfold maxLen; omega) (by omega) (by have := HR6.out.le; simp; omega) ?_; intro b7 w7 hown hgrow hnil; have HR7 : Hid (WdR _ _ b7 [wd, sp, sn] w7) := HR6.out.app (y := sn) hown hgrow; clear hown hgrow hnil; obtain ⟨_, u17, u27, u37, n07, n17, n27, n37, n47⟩ := HCel.out w7 HR7.out.below; obtain ⟨m17, m27⟩ : w1.heap.size < w7.heap.size ∧ w.heap.size < w7.heap.size := by have := HR7.out.le; exact ⟨by omega, by omega⟩))
          go_ret
          exact ⟨by rw [HV4.out]; rfl, HB9.out⟩
      case inr =>
        have h2b : ((k : Int) == 2) = false := by simpa using h2
        have HV4 : Hid (V = (if k = 1 ∨ k = 3 ∨ k = 6 then wd ++ ⟨#[32]⟩ ++ sp ++ ⟨#[32]⟩ ++ sn else if k = 5 then wd ++ ⟨#[32]⟩ ++ sp ++ ⟨#[32]⟩ ++ st else wd ++ ⟨#[32]⟩ ++ sp)) := by
          have hk6 : k = 1 ∨ k = 3 ∨ k = 6 ∨ k = 4 ∨ k = 5 := by omega
          show _ = _
          rw [HV3.out]
          rcases hk6 with rfl | rfl | rfl | rfl | rfl <;> rfl
        clear HV3
        go_upto_region 4 with fail
        go_cut [4] from 23 to 28 (fun s wx => ∃ g, s = .slice (some ⟨g, 0, none⟩) 2 2 ∧ Hid (WdR (w1.heap.size + 1) (w1.alloc (formO wd bt ba bd)) (.slice (some ⟨g, 0, none⟩) 2 2) [wd, sp] wx))
        case first =>
          go_region_with (go_at_call 17; refine (HN1.out _ (by first | exact HBA.out | exact HBA.out.drew)).mono ?_; rintro e w2 ⟨rfl, hB2⟩; have HB2 : Hid (Below (w1.heap.size + 1) (w1.alloc (formO wd bt ba bd)) w2) := HW3.out (by first | exact hB2 | exact undrewB hB2); obtain ⟨d0, _, _, _, _, d1, _⟩ := HCel.out w2 HB2.out; clear hB2)
          all_goals
            go_wp2_with fail
            go_meet
            exact ⟨_, rfl, WdR.two wd sp HB2.out (by simp)⟩
        case rest =>
          obtain ⟨g, rfl, HR⟩ := hcut
          rename World => w5
          obtain ⟨_, y1, y2, y3, z0, z1, z2, z3, z4⟩ := HCel.out w5 HR.out.below
          have HZ : Hid (w1.heap.size < w5.heap.size ∧ w.heap.size < w5.heap.size) := by have := HR.out.le; exact ⟨by omega, by omega⟩
          obtain ⟨hz1, hz2⟩ := HZ.out
          clear HN1 hbig hxs h2b
          have hk6 : k = 1 ∨ k = 3 ∨ k = 6 ∨ k = 4 ∨ k = 5 := by omega
          clear h2
          rcases hk6 with rfl | rfl | rfl | rfl | rfl
          case inr.inr.inr.inl =>
            obtain ⟨rfl, rfl, rfl⟩ : bt = false ∧ ba = false ∧ bd = false := by simpa [formC] using HE.out
            have HJ5 : Hid (Calls Tryd.prog 20 #[.slice (some ⟨g, 0, none⟩) 2 2, .string ⟨#[32]⟩] w5 fun e w' => e = .returned (.string (wd ++ ⟨#[32]⟩ ++ sp)) ∧ Below w5.heap.size w5 w') := joinW_any _ HR.out (Nat.succ_pos _) (join2 wd sp) (by rw [ByteArray.size_append, ByteArray.size_append]; show wd.size + 1 + sp.size ≤ 1000; omega) (by show 2 ≤ 4; omega)
            clear HE HT1 HD1 HX1
            go_wp2_with (go_at_call 20; with_reducible refine HJ5.out.mono ?_; rintro e w9 ⟨rfl, hB9⟩; have HB9 := hide (HEnd.out _ (HR.out.step hB9).below); clear hB9)
            go_ret
            exact ⟨by rw [HV4.out]; rfl, HB9.out⟩
          case inr.inr.inr.inr =>
            obtain ⟨rfl, rfl, rfl⟩ : bt = true ∧ ba = false ∧ bd = false := by simpa [formC] using HE.out
            have HT2 := hide (HT1.out rfl _ (HEnd.out _ HR.out.below))
            clear HE HT1 HD1 HX1
            go_wp2_with (first
              | (go_at_call 17; refine HT2.out.mono ?_; rintro e w6 ⟨rfl, hB6⟩; have HR6 := hide (HR.out.step hB6); clear hB6)
              | (go_at_call 20; with_reducible refine HJ7.out.mono ?_; rintro e w9 ⟨rfl, hB9⟩; have HB9 := hide (HEnd.out _ (HR7.out.step hB9).below); clear hB9)
              | (at_builtin; refine wpList_append_own _ rfl _ _ 22 rfl (w1.heap.size + 1) 9 iS (.string ⟨#[]⟩) 1 16 Tryd.underlying22 hiS.out hzS hsS hbS rfl (by decide) _ 2 _ rfl (HR6.out.row.alloc _) ⟨_, 0, none⟩ 1 1 [.string st] rfl (by simp) (cell_one_new _ _ _) (by simp [Value.oneCell']) (by unfold maxLen; omega) (by omega) (by have := HR6.out.le; simp; omega) ?_; intro b7 w7 hown hgrow hnil; have HR7 : Hid (WdR _ _ b7 [wd, sp, st] w7) := HR6.out.app (y := st) hown hgrow; have HJ7 : Hid (Calls Tryd.prog 20 #[b7, .string ⟨#[32]⟩] w7 fun e w' => e = .returned (.string (wd ++ ⟨#[32]⟩ ++ sp ++ ⟨#[32]⟩ ++ st)) ∧ Below w7.heap.size w7 w') := joinW_any _ HR7.out (Nat.succ_pos _) (join3 wd sp st) (by rw [ByteArray.size_append, ByteArray.size_append, ByteArray.size_append, ByteArray.size_append]; show wd.size + 1 + sp.size + 1 + st.size ≤ 1000; omega) (by show 3 ≤ 4; omega); clear hown hgrow hnil; obtain ⟨_, u17, u27, u37, n07, n17, n27, n37, n47⟩ := HCel.out w7 HR7.out.below; obtain ⟨m17, m27⟩ : w1.heap.size < w7.heap.size ∧ w.heap.size < w7.heap.size := by have := HR7.out.le; exact ⟨by omega, by omega⟩))
            go_ret
            exact ⟨by rw [HV4.out]; rfl, HB9.out⟩
          all_goals
            obtain ⟨rfl, rfl, rfl⟩ : bt = false ∧ ba = true ∧ bd = false := by simpa [formC] using HE.out
            have HD2 := hide (HD1.out (by decide) w5)
            clear HE HT1 HD1 HX1
            go_wp2_with (first
              | (go_at_call 18; refine HD2.out.mono ?_; rintro e w6 ⟨rfl, hB6⟩; have HR6 := hide (HR.out.step hB6); clear hB6)
              | (go_at_call 20; with_reducible refine HJ7.out.mono ?_; rintro e w9 ⟨rfl, hB9⟩; have HB9 := hide (HEnd.out _ (HR7.out.step hB9).below); clear hB9)
              | (at_builtin; refine wpList_append_own _ rfl _ _ 22 rfl (w1.heap.size + 1) 9 iS (.string ⟨#[]⟩) 1 16 Tryd.underlying22 hiS.out hzS hsS hbS rfl (by decide) _ 2 _ rfl (HR6.out.row.alloc _) ⟨_, 0, none⟩ 1 1 [.string sn] rfl (by simp) (cell_one_new _ _ _) (by simp [Value.oneCell']) (by unfold maxLen; omega) (by omega) (by have := HR6.out.le; simp; omega) ?_; intro b7 w7 hown hgrow hnil; have HR7 : Hid (WdR _ _ b7 [wd, sp, sn] w7) := HR6.out.app (y := sn) hown hgrow; have HJ7 : Hid (Calls Tryd.prog 20 #[b7, .string ⟨#[32]⟩] w7 fun e w' => e = .returned (.string (wd ++ ⟨#[32]⟩ ++ sp ++ ⟨#[32]⟩ ++ sn)) ∧ Below w7.heap.size w7 w') := joinW_any _ HR7.out (Nat.succ_pos _) (join3 wd sp sn) (by rw [ByteArray.size_append, ByteArray.size_append, ByteArray.size_append, ByteArray.size_append]; show wd.size + 1 + sp.size + 1 + sn.size ≤ 1000; omega) (by show 3 ≤ 4; omega); clear hown hgrow hnil; obtain ⟨_, u17, u27, u37, n07, n17, n27, n37, n47⟩ := HCel.out w7 HR7.out.below; obtain ⟨m17, m27⟩ : w1.heap.size < w7.heap.size ∧ w.heap.size < w7.heap.size := by have := HR7.out.le; exact ⟨by omega, by omega⟩))
            go_ret
            exact ⟨by rw [HV4.out]; rfl, HB9.out⟩

end Go.Proofs.YtigammadhpgahaaDoor
