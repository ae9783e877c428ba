/- What the program writes for a group. -/
import Derived.Test.YtofgadldopaniaaDoorSvH
namespace Go.Proofs.YtofgadldopaniaaDoor
open Go.RowKit

set_option maxRecDepth 100000 in
set_option maxHeartbeats 8000000 in
theorem groupWrites_any (B : Nat) (g next : Nat) (text : ByteArray) (ga : Option Addr) (m gc : Nat) (s : ByteArray) (w : World) (hT : Tab B w) (hB : B ≤ w.heap.size) (hg : g ≤ 1048576) (hm : m ≤ 1048576) (hnx : next ≤ 1000) (hs : s.size ≤ 1048576) :
    Calls Tryd.prog 35 #[.agg #[.int .i64 (g : Int), .string text, .slice ga m gc, .int .i64 (next : Int)], .string s] w fun e w' => ∃ v, e = .returned v ∧ RwRow w' w.heap.size v (groupV g m next s) ∧ Below w.heap.size w w' := by
  obtain ⟨iR, hiR', hzR, hsR, hbR⟩ := info_R
  have hiR := hide hiR'
  clear hiR'
  have HT : Hid (∀ W, Below w.heap.size w W → Calls Tryd.prog 50 #[.agg #[.int .i64 (g : Int), .int .i64 (m : Int), .int .i64 (s.size : Int)]] W fun e w' => e = .returned (.string (headH g m s.size)) ∧ Below W.heap.size W w') := fun W hW => headHText_any B g m s.size W (hT.keep (hW.mono hB)) (Nat.le_trans hB hW.size) hg hm hs
  have HP : Hid (∀ W, Calls Tryd.prog 51 #[.string s, .int .i64 (2 + (next : Int) + 1)] W fun e w' => ∃ v, e = .returned v ∧ RwRow w' W.heap.size v (wrs (fun i => ⟨#[68]⟩ ++ piece s 63 i) (2 + next + 1) ((s.size + 62) / 63)) ∧ Below W.heap.size W w') := fun W => by
    have := pieceWrites_groupPiece s (2 + next + 1) W hs (by omega)
    have e : ((2 + next + 1 : Nat) : Int) = 2 + (next : Int) + 1 := by omega
    rwa [e] at this
  have hN : (s.size + 62) / 63 ≤ 16700 := by omega
  have HL := hide (wrs_length (fun i => (⟨#[68]⟩ : ByteArray) ++ piece s 63 i) (2 + next + 1) ((s.size + 62) / 63))
  have HSv : Hid (groupV g m next s = wrs (fun i => (⟨#[68]⟩ : ByteArray) ++ piece s 63 i) (2 + next + 1) ((s.size + 62) / 63) ++ [⟨2 + (next : Int), headH g m s.size⟩]) := by
    show _ = _
    have e : ((2 + next : Nat) : Int) = 2 + (next : Int) := by omega
    rw [groupV, e]
  generalize wrs (fun i => (⟨#[68]⟩ : ByteArray) ++ piece s 63 i) (2 + next + 1) ((s.size + 62) / 63) = L at *
  generalize (s.size + 62) / 63 = N at *
  generalize headH g m s.size = H at *
  generalize groupV g m next s = V at *
  clear hT
  have hxl : (rawC L).length = N * 2 := by rw [rawC_length, HL.out]
  have hw1 : IntKind.i64.wrap (2 + (next : Int) + 1) = 2 + (next : Int) + 1 := by rw [IntKind.wrap_i64]; omega
  have HA : Hid (∀ o, Below w.heap.size w (w.alloc o)) := fun o => (Below.refl _ _).alloc (Nat.le_refl _) o
  go_enter Tryd.func35, Tryd.ntmps35
  go_wp2_with (go_at_call 50; refine (HT.out _ (HA.out _)).mono ?_; rintro e2 w2 ⟨rfl, hB2⟩; have HB1 : Hid (Below w.heap.size w w2) := (HA.out _).trans (hB2.mono (HA.out _).size); clear hB2)
  generalize hW2 : w2.alloc (Obj.cells #[.int .i64 (2 + (next : Int)), .string H] 42) = W2
  have HS2 : Hid (Sx w w2.heap.size #[.int .i64 (2 + (next : Int)), .string H] W2) := by subst hW2; exact ⟨HB1.out.alloc HB1.out.size _, Blk.new _ _ _⟩
  clear hW2
  have HP2 : Hid (∀ W, Sx w w2.heap.size #[.int .i64 (2 + (next : Int)), .string H] W → Calls Tryd.prog 51 #[.string s, .int .i64 (2 + (next : Int) + 1)] W fun e w' => ∃ v, e = .returned v ∧ RwRow w' w.heap.size v L ∧ Sx w w2.heap.size #[.int .i64 (2 + (next : Int)), .string H] w' ∧ Below W.heap.size W w') := fun W hW =>
    (HP.out W).mono fun e w' ⟨v, h1, h2, h3⟩ => ⟨v, h1, h2.base hW.below.size, hW.next h3, h3⟩
  have HP3 : Hid (∀ W, Sx w w2.heap.size #[.int .i64 (2 + (next : Int)), .string H] W → Calls Tryd.prog 51 #[.string s, .int .i64 (2 + (next : Int) + 1)] (W.alloc (.cells #[.int .i64 (2 + (next : Int)), .string H] 42)).drew fun e w' => ∃ v, e = .returned v ∧ RwRow w' w.heap.size v L ∧ Sx w w2.heap.size #[.int .i64 (2 + (next : Int)), .string H] w' ∧ Blk w' W.heap.size #[.int .i64 (2 + (next : Int)), .string H] 42) := fun W hW =>
    (HP2.out _ (hW.alloc _).drew).mono fun e w' ⟨v, h1, h2, h3, h4⟩ => ⟨v, h1, h2, h3, (show Blk (W.alloc (.cells #[.int .i64 (2 + (next : Int)), .string H] 42)).drew W.heap.size #[.int .i64 (2 + (next : Int)), .string H] 42 from Blk.new W _ _).below h4 (by show W.heap.size < (W.alloc (.cells #[.int .i64 (2 + (next : Int)), .string H] 42)).heap.size; simp)⟩
  have x0 := HS2.out.box.cell 0 _ rfl
  have x1 := HS2.out.box.cell 1 _ rfl
  clear HT hB HB1
  go_region_law (first
    | (refine step_append_lies _ rfl (.tmp 24) (.tmp 26) 22 rfl w.heap.size 42 iR (.agg zeroR) 2 24 Tryd.underlying22 hiR.out hzR hsR hbR rfl (by decide) v4 N (rawC L) (by first | (simp [Act.eval]; done) | simp [Act.eval, Act.put]) (rwrow_at HR4.out HL.out) ⟨W2.heap.size, 0, none⟩ 1 1 [.int .i64 (2 + (next : Int)), .string H] (by first | (simp [Act.eval]; done) | simp [Act.eval, Act.put]) (by simp) (blk_two HN4.out) (by simp [Value.oneCell']) (by decide) (by unfold maxLen; omega) (by omega) (by have := HS4.out.below.size; omega) _ rfl ?_
       intro g6 c6 w6 hown hgrow hat hgl
       have HE := hide (sx_end HS4.out HR4.out HL.out (Below.refl _ _) hgrow hown)
       clear hown hgrow hat hgl)
    | (refine step_append_lies _ rfl (.tmp 24) (.tmp 26) 22 rfl w.heap.size 42 iR (.agg zeroR) 2 24 Tryd.underlying22 hiR.out hzR hsR hbR rfl (by decide) v3 N (rawC L) (by first | (simp [Act.eval]; done) | simp [Act.eval, Act.put]) ((rwrow_at HR3.out HL.out).alloc _) ⟨w3.heap.size, 0, none⟩ 1 1 [.int .i64 (2 + (next : Int)), .string H] (by first | (simp [Act.eval]; done) | simp [Act.eval, Act.put]) (by simp) (cell_two_at rfl) (by simp [Value.oneCell']) (by decide) (by unfold maxLen; omega) (by omega) (by have := HS3.out.below.size; simp; omega) _ rfl ?_
       intro g6 c6 w6 hown hgrow hat hgl
       have HE := hide (sx_end HS3.out HR3.out HL.out ((Below.refl _ _).alloc (Nat.le_refl _) _) hgrow hown)
       clear hown hgrow hat hgl)
    | (rw [if_pos (by simp [Region.wanted])]; go_simp; go_at_call 51; with_reducible (show Calls _ _ _ (World.drew (World.alloc _ _)) _); refine (HP3.out _ HS2.out).mono ?_; rintro e4 w4 ⟨v4, rfl, hR4, hS4, hN4⟩; have HR4 := hide hR4; have HS4 := hide hS4; have HN4 := hide hN4; have y0 := hS4.box.cell 0 _ rfl; have y1 := hS4.box.cell 1 _ rfl; clear hR4 hS4 hN4)
    | (rw [if_pos (by simp [Region.wanted])]; go_simp; go_at_call 51; refine (HP2.out _ HS2.out.drew).mono ?_; rintro e3 w3 ⟨v3, rfl, hR3, hS3, _⟩; have HR3 := hide hR3; have HS3 := hide hS3; have y0 := hS3.box.cell 0 _ rfl; have y1 := hS3.box.cell 1 _ rfl; clear hR3 hS3))
  all_goals
    go_wp2_with fail
    go_ret
    exact ⟨_, rfl, by rw [HSv.out]; exact HE.out.1, HE.out.2⟩

end Go.Proofs.YtofgadldopaniaaDoor
