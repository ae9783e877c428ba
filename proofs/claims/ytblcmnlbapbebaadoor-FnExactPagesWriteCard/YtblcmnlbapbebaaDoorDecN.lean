/- Numbers in decimals, written by the specification's other function. -/
import Derived.Test.YtblcmnlbapbebaaDoorSvD
namespace Go.Proofs.YtblcmnlbapbebaaDoor
open Go.RowKit

set_option maxRecDepth 100000 in
set_option maxHeartbeats 2000000 in
theorem l1Dec_any : ∀ (f n : Nat) (w : World), n ≤ f → n ≤ 9223372036854775807 →
    Calls Tryd.prog 13 #[.int .i64 (n : Int)] w fun e w' => e = .returned (.string (dgs n)) ∧ Below w.heap.size w w'
  | f, n, w, hf, hn => by
    by_cases hlt : n < 10
    · have HD : Hid (dgs n = ⟨#[UInt8.ofNat (48 + n)]⟩) := dgs_small n hlt
      have hcv := conv_at (w.alloc (.cells #[.int .u8 (48 + (n : Int))] 5)) w.heap.size (48 + n) (by omega) (by
        have : ((48 + n : Nat) : Int) = 48 + (n : Int) := by omega
        rw [this]
        simp)
      have hB : Below w.heap.size w (w.alloc (.cells #[.int .u8 (48 + (n : Int))] 5)) := (Below.refl _ _).alloc (Nat.le_refl _) _
      generalize (⟨#[UInt8.ofNat (48 + n)]⟩ : ByteArray) = x1 at HD hcv
      go_enter Tryd.func13, Tryd.ntmps13
      go_wp2_with fail
      go_ret
      exact ⟨by rw [HD.out]; rfl, hB⟩
    · obtain ⟨f, rfl⟩ : ∃ f', f = f' + 1 := ⟨f - 1, by omega⟩
      have HD : Hid (dgs n = dgs (n / 10) ++ ⟨#[UInt8.ofNat (48 + n % 10)]⟩) := dgs_big n hlt
      have HIH : Hid (∀ W, Below w.heap.size w W → Calls Tryd.prog 13 #[.int .i64 ((n : Int) / 10)] W fun e w' => e = .returned (.string (dgs (n / 10))) ∧ Below w.heap.size w w') := fun W hW => by
        have := l1Dec_any f (n / 10) W (by omega) (by omega)
        have e : ((n / 10 : Nat) : Int) = (n : Int) / 10 := by omega
        rw [e] at this
        exact this.mono fun e w' ⟨h1, h2⟩ => ⟨h1, hW.trans (h2.mono hW.size)⟩
      have hm : ((48 + n % 10 : Nat) : Int) = 48 + (n : Int) % 10 := by omega
      have hcv : ∀ W : World, (convert 65 9 (.slice (some ⟨W.heap.size, 0, none⟩) 1 1)).run Tryd.prog (W.alloc (.cells #[.int .u8 (48 + (n : Int) % 10)] 5)) = .ok (.string ⟨#[UInt8.ofNat (48 + n % 10)]⟩) (W.alloc (.cells #[.int .u8 (48 + (n : Int) % 10)] 5)) := fun W =>
        conv_at _ _ (48 + n % 10) (by omega) (by rw [hm]; simp)
      have hcv2 : ∀ W : World, (convert 65 9 (.slice (some ⟨W.heap.size, 0, none⟩) 1 1)).run Tryd.prog (W.alloc (.cells #[.int .u8 (48 + (n : Int) % 10)] 5)).drew = .ok (.string ⟨#[UInt8.ofNat (48 + n % 10)]⟩) (W.alloc (.cells #[.int .u8 (48 + (n : Int) % 10)] 5)).drew := fun W => hcv W.drew
      have HCb : Hid (∀ W, Below w.heap.size w W → Calls Tryd.prog 13 #[.int .i64 ((n : Int) / 10)] (W.alloc (.cells #[.int .u8 (48 + (n : Int) % 10)] 5)) fun e w' => e = .returned (.string (dgs (n / 10))) ∧ Below w.heap.size w w' ∧ (convert 65 9 (.slice (some ⟨W.heap.size, 0, none⟩) 1 1)).run Tryd.prog w' = .ok (.string ⟨#[UInt8.ofNat (48 + n % 10)]⟩) w') := fun W hW => by
        have := l1Dec_any f (n / 10) (W.alloc (.cells #[.int .u8 (48 + (n : Int) % 10)] 5)) (by omega) (by omega)
        have e : ((n / 10 : Nat) : Int) = (n : Int) / 10 := by omega
        rw [e] at this
        refine this.mono fun e w' ⟨h1, h2⟩ => ⟨h1, (hW.alloc hW.size _).trans (h2.mono (by have := hW.size; simp; omega)), conv_at _ _ (48 + n % 10) (by omega) ?_⟩
        rw [hm, h2.cell (p := ⟨W.heap.size, 0, none⟩) (by show W.heap.size < _; simp)]
        simp
      have HCd : Hid (∀ W, Below w.heap.size w W → Calls Tryd.prog 13 #[.int .i64 ((n : Int) / 10)] (W.alloc (.cells #[.int .u8 (48 + (n : Int) % 10)] 5)).drew fun e w' => e = .returned (.string (dgs (n / 10))) ∧ Below w.heap.size w w' ∧ (convert 65 9 (.slice (some ⟨W.heap.size, 0, none⟩) 1 1)).run Tryd.prog w' = .ok (.string ⟨#[UInt8.ofNat (48 + n % 10)]⟩) w') := fun W hW => by
        have := HCb.out W.drew hW.drew
        exact this
      have hq : IntKind.i64.wrap ((n : Int) / 10) = (n : Int) / 10 := by rw [IntKind.wrap_i64]; omega
      have ht : (n : Int).tmod 10 = (n : Int) % 10 := Int.tmod_eq_emod_of_nonneg (by omega)
      have hw1 : IntKind.i64.wrap (48 + (n : Int) % 10) = 48 + (n : Int) % 10 := by rw [IntKind.wrap_i64]; omega
      have hw2 : IntKind.u8.wrap (48 + (n : Int) % 10) = 48 + (n : Int) % 10 := by simp [IntKind.wrap, IntKind.signed, IntKind.bits]; omega
      have hs1 := dgs_size (n / 10) (by omega)
      have hs : ¬ 9223372036854775807 < (dgs (n / 10)).size + 1 := by omega
      have hsz : (⟨#[UInt8.ofNat (48 + n % 10)]⟩ : ByteArray).size = 1 := rfl
      have hs2 : ¬ 9223372036854775807 < (dgs (n / 10)).size + (⟨#[UInt8.ofNat (48 + n % 10)]⟩ : ByteArray).size := by rw [hsz]; omega
      have HB0 : Hid (Below w.heap.size w w) := Below.refl _ _
      generalize hd1 : dgs (n / 10) = d1 at *
      generalize hx1 : (⟨#[UInt8.ofNat (48 + n % 10)]⟩ : ByteArray) = x1 at *
      clear hd1 hx1
      go_enter Tryd.func13, Tryd.ntmps13
      go_wp2_with fail
      go_region_with (go_at_call 13; first | (with_reducible (show Calls _ _ _ (World.drew (World.alloc _ _)) _); refine (HCd.out w HB0.out).mono ?_; rintro e1 w1 ⟨rfl, hB1, hc1⟩; have HB1 := hide hB1; clear hB1) | (with_reducible (show Calls _ _ _ (World.alloc _ _) _); refine (HCb.out _ HB0.out.drew).mono ?_; rintro e1 w1 ⟨rfl, hB1, hc1⟩; have HB1 := hide hB1; clear hB1) | (with_reducible (show Calls _ _ _ w.drew _); refine (HIH.out _ HB0.out.drew).mono ?_; rintro e1 w1 ⟨rfl, hB1⟩; have HB1 := hide hB1; clear hB1))
      all_goals
        go_wp2_with fail
        go_ret
        exact ⟨by rw [HD.out]; rfl, by first | exact HB1.out | exact HB1.out.alloc HB1.out.size _⟩

end Go.Proofs.YtblcmnlbapbebaaDoor
