/- The program's writes of a checkpoint; its StoreNew. -/
import Derived.Test.YtofgadldopaniaaDoorSvPt
import Derived.Test.YtofgadldopaniaaDoorSvI
import Derived.Deep.RegionWith
import Derived.Deep.RegionLaw
import Derived.Deep.AppendLies
namespace Go.Proofs.YtofgadldopaniaaDoor
open Go.RowKit

theorem empty_app (x : ByteArray) : (⟨#[]⟩ : ByteArray) ++ x = x := by
  apply ByteArray.ext
  rw [ByteArray.data_append]
  simp

/-- Where a list of writes is put together: the last one stands ready in its box. -/
structure Sx (w1 : World) (k : Nat) (A : Array Value) (W : World) : Prop where
  below : Below w1.heap.size w1 W
  box : Blk W k A 42


theorem Sx.next {w1 : World} {k : Nat} {A : Array Value} {W W' : World} (h : Sx w1 k A W) (hb : Below W.heap.size W W') : Sx w1 k A W' := ⟨h.below.trans (hb.mono h.below.size), h.box.below hb h.box.lt⟩
theorem Sx.alloc {w1 : World} {k : Nat} {A : Array Value} {W : World} (h : Sx w1 k A W) (o : Obj) : Sx w1 k A (W.alloc o) := h.next ((Below.refl _ _).alloc (Nat.le_refl _) o)
theorem Sx.drew {w1 : World} {k : Nat} {A : Array Value} {W : World} (h : Sx w1 k A W) : Sx w1 k A W.drew := ⟨h.below.drew, h.box⟩
theorem sx_end {w1 W W' w6 : World} {k N : Nat} {A : Array Value} {v v' : Value} {L : List Rw} {p : Int} {d : ByteArray} (hS : Sx w1 k A W) (hR : RwRow W w1.heap.size v L) (hn : L.length = N) (hb : Below W.heap.size W W') (hg : W'.grownBy w6 v.ownBlock)
    (ho : w6.ownsRow w1.heap.size 42 2 v' (N + 1) (rawC L ++ [.int .i64 p, .string d])) : RwRow w6 w1.heap.size v' (L ++ [⟨p, d⟩]) ∧ Below w1.heap.size w1 w6 :=
  ⟨RwRow.snoc hn.symm ho, (hS.below.trans (hb.mono hS.below.size)).grown hg (by have := hS.below.size; have := hb.size; omega) (fun j hj => row_base hR j hj)⟩

set_option maxRecDepth 100000 in
set_option maxHeartbeats 4000000 in
theorem checkpointWrites_any (B g : Nat) (s : ByteArray) (w : World) (hT : Tab B w) (hB : B ≤ w.heap.size) (hg : g ≤ 1048576) (hs : s.size ≤ 1048576) :
    Calls Tryd.prog 22 #[.int .i64 (g : Int), .string s] w fun e w' => ∃ v, e = .returned v ∧ RwRow w' w.heap.size v (savedV g s) ∧ Below w.heap.size w w' := by
  obtain ⟨iR, hiR', hzR, hsR, hbR⟩ := info_R
  have hiR := hide hiR'
  clear hiR'
  have HB2 := hide (fun W => headBlock_any g W hg)
  have HT := hide (headCText_any B g s.size w hT hB hg hs)
  have HA := hide (fun W => areaOf_any g W hg)
  have hAr : 14 + g % 2 * 90 ≤ 104 := by omega
  have HP := hide (fun W => pieceWrites_textPiece s (14 + g % 2 * 90) W hs (by omega))
  have hN : (s.size + 63) / 64 ≤ 16385 := by omega
  have HL := hide (wrs_length (fun i => (⟨#[]⟩ : ByteArray) ++ piece s 64 i) (14 + g % 2 * 90) ((s.size + 63) / 64))
  have HSv : Hid (savedV g s = wrs (fun i => (⟨#[]⟩ : ByteArray) ++ piece s 64 i) (14 + g % 2 * 90) ((s.size + 63) / 64) ++ [⟨((g % 2 : Nat) : Int), headC g s.size⟩]) := by
    show _ = _
    have e : (fun i => (⟨#[]⟩ : ByteArray) ++ piece s 64 i) = piece s 64 := by funext i; exact empty_app _
    rw [e]; rfl
  generalize wrs (fun i => (⟨#[]⟩ : ByteArray) ++ piece s 64 i) (14 + g % 2 * 90) ((s.size + 63) / 64) = L at *
  generalize (s.size + 63) / 64 = N at *
  generalize 14 + g % 2 * 90 = A at *
  generalize headC g s.size = H at *
  generalize savedV g s = V at *
  generalize g % 2 = g2 at *
  clear hT
  have hxl : (rawC L).length = N * 2 := by rw [rawC_length, HL.out]
  go_enter Tryd.func22, Tryd.ntmps22
  go_wp2_with (first
    | (go_at_call 43; refine (HB2.out _).mono ?_; rintro e1 w1 ⟨rfl, rfl⟩)
    | (go_at_call 44; refine HT.out.mono ?_; rintro e2 w2 ⟨rfl, hB2⟩; have HB1 := hide hB2; clear hB2))
  generalize hW2 : w2.alloc (Obj.cells #[.int .i64 (g2 : Int), .string H] 42) = W2
  have HS2 : Hid (Sx w1 w2.heap.size #[.int .i64 (g2 : Int), .string H] W2) := by subst hW2; exact ⟨HB1.out.alloc HB1.out.size _, Blk.new _ _ _⟩
  clear hW2
  have HP2 : Hid (∀ W, Sx w1 w2.heap.size #[.int .i64 (g2 : Int), .string H] W → Calls Tryd.prog 45 #[.string s, .int .i64 (A : Int)] W fun e w' => ∃ v, e = .returned v ∧ RwRow w' w1.heap.size v L ∧ Sx w1 w2.heap.size #[.int .i64 (g2 : Int), .string H] w' ∧ Below W.heap.size W w') := fun W hW =>
    (HP.out W).mono fun e w' ⟨v, h1, h2, h3⟩ => ⟨v, h1, h2.base hW.below.size, hW.next h3, h3⟩
  have HP3 : Hid (∀ W, Sx w1 w2.heap.size #[.int .i64 (g2 : Int), .string H] W → Calls Tryd.prog 45 #[.string s, .int .i64 (A : Int)] (W.alloc (.cells #[.int .i64 (g2 : Int), .string H] 42)).drew fun e w' => ∃ v, e = .returned v ∧ RwRow w' w1.heap.size v L ∧ Sx w1 w2.heap.size #[.int .i64 (g2 : Int), .string H] w' ∧ Blk w' W.heap.size #[.int .i64 (g2 : Int), .string H] 42) := fun W hW =>
    (HP2.out _ (hW.alloc _).drew).mono fun e w' ⟨v, h1, h2, h3, h4⟩ => ⟨v, h1, h2, h3, (show Blk (W.alloc (.cells #[.int .i64 (g2 : Int), .string H] 42)).drew W.heap.size #[.int .i64 (g2 : Int), .string H] 42 from Blk.new W _ _).below h4 (by show W.heap.size < (W.alloc (.cells #[.int .i64 (g2 : Int), .string H] 42)).heap.size; simp)⟩
  have x0 := HS2.out.box.cell 0 _ rfl
  have x1 := HS2.out.box.cell 1 _ rfl
  clear HB2 HT hB HB1
  go_region_law (first
    | (refine step_append_lies _ rfl (.tmp 17) (.tmp 19) 22 rfl w1.heap.size 42 iR (.agg zeroR) 2 24 Tryd.underlying22 hiR.out hzR hsR hbR rfl (by decide) v4 N (rawC L) (by first | (simp [Act.eval]; done) | simp [Act.eval, Act.put]) (rwrow_at HR4.out HL.out) ⟨W2.heap.size, 0, none⟩ 1 1 [.int .i64 (g2 : Int), .string H] (by first | (simp [Act.eval]; done) | simp [Act.eval, Act.put]) (by simp) (blk_two HN4.out) (by simp [Value.oneCell']) (by decide) (by unfold maxLen; omega) (by omega) (by have := HS4.out.below.size; omega) _ rfl ?_
       intro g6 c6 w6 hown hgrow hat hgl
       have HE := hide (sx_end HS4.out HR4.out HL.out (Below.refl _ _) hgrow hown)
       clear hown hgrow hat hgl)
    | (refine step_append_lies _ rfl (.tmp 17) (.tmp 19) 22 rfl w1.heap.size 42 iR (.agg zeroR) 2 24 Tryd.underlying22 hiR.out hzR hsR hbR rfl (by decide) v3 N (rawC L) (by first | (simp [Act.eval]; done) | simp [Act.eval, Act.put]) ((rwrow_at HR3.out HL.out).alloc _) ⟨w3.heap.size, 0, none⟩ 1 1 [.int .i64 (g2 : Int), .string H] (by first | (simp [Act.eval]; done) | simp [Act.eval, Act.put]) (by simp) (cell_two_at rfl) (by simp [Value.oneCell']) (by decide) (by unfold maxLen; omega) (by omega) (by have := HS3.out.below.size; simp; omega) _ rfl ?_
       intro g6 c6 w6 hown hgrow hat hgl
       have HE := hide (sx_end HS3.out HR3.out HL.out ((Below.refl _ _).alloc (Nat.le_refl _) _) hgrow hown)
       clear hown hgrow hat hgl)
    | (rw [if_pos (by simp [Region.wanted])]; go_simp; go_at_call 45; with_reducible (show Calls _ _ _ (World.drew (World.alloc _ _)) _); refine (HP3.out _ HS2.out).mono ?_; rintro e4 w4 ⟨v4, rfl, hR4, hS4, hN4⟩; have HR4 := hide hR4; have HS4 := hide hS4; have HN4 := hide hN4; have y0 := hS4.box.cell 0 _ rfl; have y1 := hS4.box.cell 1 _ rfl; clear hR4 hS4 hN4)
    | (rw [if_pos (by simp [Region.wanted])]; go_simp; go_at_call 45; refine (HP2.out _ HS2.out.drew).mono ?_; rintro e3 w3 ⟨v3, rfl, hR3, hS3, _⟩; have HR3 := hide hR3; have HS3 := hide hS3; have y0 := hS3.box.cell 0 _ rfl; have y1 := hS3.box.cell 1 _ rfl; clear hR3 hS3)
    | (rw [if_pos (by simp [Region.wanted])]; go_simp; go_at_call 46; refine (HA.out _).mono ?_; rintro e5 w5 ⟨rfl, rfl⟩))
  all_goals
    go_wp2_with fail
    go_ret
    exact ⟨_, rfl, by rw [HSv.out]; exact HE.out.1, HE.out.2⟩

end Go.Proofs.YtofgadldopaniaaDoor
