/- The specification's PagesWrite. -/
import Derived.Test.YtblcmnlbapbebaaDoorWrV
import Derived.Test.YtblcmnlbapbebaaDoorL32Tx
import Derived.Test.YtblcmnlbapbebaaDoorDecN
import Derived.Test.YtblcmnlbapbebaaDoorQt
namespace Go.Proofs.YtblcmnlbapbebaaDoor
open Go.RowKit

set_option maxRecDepth 100000 in
set_option maxHeartbeats 4000000 in
theorem specWrite_any (P : List Pg) (N : List Pn) (pv nv : Value) (w : World) (lo hi : Nat) (hp : RcsAt fPg w lo hi pv P) (hn : RcsAt fPn w lo hi nv N) (hhi : hi ≤ w.heap.size)
    (hs : ∀ (i : Nat) (h : i < P.length), P[i].data.size ≤ maxLen) (hsn : ∀ (i : Nat) (h : i < N.length), N[i].name.size ≤ maxLen) :
    Calls Tryd.prog 5 #[.agg #[pv, nv]] w fun e w' => e = .returned (.string (writeV P N)) ∧ Below w.heap.size w w' := by
  have hpv : ∃ a n c, pv = .slice a n c := by obtain ⟨a, c, e, _⟩ := hp; exact ⟨_, _, _, e⟩
  have HOk := hide (fun (W : World) (hW : Below w.heap.size w W) => specOk_any P N pv nv W lo hi (hp.keep hW hhi) (hn.keep hW hhi) (Nat.le_trans hhi hW.size) hs hsn)
  have HTx := hide (fun (W : World) (hW : Below w.heap.size w W) (pos m : Nat) (c : List Nat) (e0 : Int) => l32Text_any P N pv nv pos m c e0 W lo hi (hp.keep hW hhi) (hn.keep hW hhi) (Nat.le_trans hhi hW.size))
  have HSs := hide hs
  have HNr := hide hn
  have HV : Hid (okB P N = (okV P N).isSome) := rfl
  obtain ⟨pa, pl, pc, rfl⟩ := hpv
  obtain ⟨na, nc, rfl⟩ : ∃ a c, nv = .slice a N.length c := by obtain ⟨a, c, e, _⟩ := hn; exact ⟨_, _, e⟩
  have HBo : Hid (∀ o, Below w.heap.size w (w.alloc o)) := fun o => (Below.refl _ _).alloc (Nat.le_refl _) o
  clear hp hn hs hsn
  cases hk : okV P N with
  | none =>
    have hb : okB P N = false := by rw [HV.out, hk]; rfl
    have HR := hide (writeV_no hk)
    rw [hb] at HOk
    go_enter Tryd.func5, Tryd.ntmps5
    go_wp2_with (go_at_call 11; refine (HOk.out _ (HBo.out _)).mono ?_; rintro e w1 ⟨rfl, hB1⟩; have HB1 : Hid (Below w.heap.size w w1) := (HBo.out _).trans (hB1.mono (HBo.out _).size); clear hB1)
    go_ret
    exact ⟨by rw [HR.out]; rfl, HB1.out⟩
  | some T =>
    have hb : okB P N = true := by rw [HV.out, hk]; rfl
    have HNm := hide (okV_nms hk)
    have HK := hide hk
    have HSz := hide (linesV_size hk)
    have HR := hide (writeV_yes hk)
    have hfew := HNm.out.few
    rw [hb] at HOk
    clear hk
    go_enter Tryd.func5, Tryd.ntmps5
    go_wp2_with fail
    generalize hW : w.alloc (.cells #[.slice pa pl pc, .slice na N.length nc] 31) = W
    have HW : Hid (Below w.heap.size w W ∧ Blk W w.heap.size #[.slice pa pl pc, .slice na N.length nc] 31) := by subst hW; exact ⟨HBo.out _, Blk.new _ _ _⟩
    clear hW HBo
    refine (HOk.out W HW.out.1).mono ?_
    rintro e w1 ⟨rfl, hB1⟩
    have HW1 : Hid (Below w.heap.size w w1 ∧ Blk w1 w.heap.size #[.slice pa pl pc, .slice na N.length nc] 31) := ⟨HW.out.1.trans (hB1.mono HW.out.1.size), HW.out.2.below hB1 HW.out.2.lt⟩
    clear hB1 HW HOk
    go_wp2_with fail
    go_loopw [3, 4] (fun x i wr => ∃ k : Nat, k ≤ N.length ∧ i = .int .i64 k ∧ x = .string (linesV P (N.take k)) ∧ Hid (Below w.heap.size w wr ∧ Blk wr w.heap.size #[.slice pa pl pc, .slice na N.length nc] 31)) (fun _ i _ => N.length - (intOf i).toNat)
    case atStart => exact ⟨0, Nat.zero_le _, rfl, by rw [List.take_zero]; rfl, HW1⟩
    case round =>
      obtain ⟨k, hk, rfl, rfl, HB⟩ := hrel
      have x0 := HB.out.2.cell 0 _ rfl
      have x1 := HB.out.2.cell 1 _ rfl
      have hls := HSz.out k hk
      by_cases hlt : k < N.length
      · have hltI : (k : Int) < (N.length : Int) := by omega
        obtain ⟨m, c, e0, hp⟩ := okV_part HK.out k hlt
        have HTx2 : Hid (∀ W, Below w.heap.size w W → Calls Tryd.prog 12 #[.agg #[.slice pa pl pc, .slice na N.length nc], .int .i64 (k : Int)] W fun e w' => e = .returned (.string (catP P c)) ∧ Below W.heap.size W w') := fun W hW => HTx.out W hW k m c e0 HNm.out.len HNm.out.few HSs.out hlt hp.size hp.few hp.chain
        have hm3 := hp.few
        have hn5 := hp.name
        have hcl := hp.len
        have hd := dgs_size m (by omega)
        have HE := hide (linesV_succ P N k hlt)
        rw [hp.part] at HE
        obtain ⟨aa, cap, he, _, hc⟩ := HNr.out
        simp only [Value.slice.injEq, true_and] at he
        obtain ⟨rfl, rfl⟩ := he
        obtain ⟨b, o, rfl, _, hb2, hcell⟩ := hc (by omega)
        obtain ⟨y0, _, _⟩ := hcell k hlt
        simp only [fPn] at y0
        have hbl : b < w.heap.size := by omega
        clear hp hc hcell HTx
        go_wp2_with fail
        refine (HTx2.out wr HB.out.1).mono ?_
        rintro e w2 ⟨rfl, hB2⟩
        have HB2 : Hid (Below w.heap.size w w2 ∧ Blk w2 w.heap.size #[.slice pa pl pc, .slice (some ⟨b, o, none⟩) N.length nc] 31) := ⟨HB.out.1.trans (hB2.mono HB.out.1.size), HB.out.2.below hB2 HB.out.2.lt⟩
        have e1 : (⟨#[32]⟩ : ByteArray).size = 1 := rfl
        have e2 : (⟨#[10]⟩ : ByteArray).size = 1 := rfl
        have HDe : Hid (∀ W, Below w2.heap.size w2 W → Calls Tryd.prog 13 #[.int .i64 (((catP P c).size : Nat) : Int)] W fun e w' => e = .returned (.string (dgs m)) ∧ Below w2.heap.size w2 w') := fun W hW => by
          rw [hcl]
          exact (l1Dec_any m m W (Nat.le_refl _) (by omega)).mono fun e w' ⟨h1, h2⟩ => ⟨h1, hW.trans (h2.mono hW.size)⟩
        have HDm : Hid (∀ W, Below w2.heap.size w2 W → Calls Tryd.prog 13 #[.int .i64 (m : Int)] W fun e w' => e = .returned (.string (dgs m)) ∧ Below w2.heap.size w2 w') := fun W hW => (l1Dec_any m m W (Nat.le_refl _) (by omega)).mono fun e w' ⟨h1, h2⟩ => ⟨h1, hW.trans (h2.mono hW.size)⟩
        have z0 : ∀ x : Wd (Below w2.heap.size w2), x.w.cell? ⟨w.heap.size, 1, none⟩ = some (.slice (some ⟨b, o, none⟩) N.length nc) := fun x => (HB2.out.2.below x.h HB2.out.2.lt).cell 1 _ rfl
        have z1 : ∀ x : Wd (Below w2.heap.size w2), x.w.cell? ⟨b, o + k * 3, none⟩ = some (.string N[k].name) := fun x => ((HB2.out.1.trans (x.h.mono HB2.out.1.size)).cell (p := ⟨b, o + k * 3, none⟩) hbl).trans y0
        have hne : Nonempty (Wd (Below w2.heap.size w2)) := ⟨⟨w2, Below.refl _ _⟩⟩
        have hRefl : Hid (Below w2.heap.size w2 w2.drew) := (Below.refl _ _).drew
        clear hB2 x0 x1 y0
        generalize N[k].name = nm at *
        generalize catP P c = tx at *
        generalize dgs m = dg at *
        generalize linesV P (N.take k) = ls at *
        have s1 : ¬ 9223372036854775807 < ls.size + nm.size := by omega
        have s2 : ¬ 9223372036854775807 < (ls ++ nm).size + (⟨#[32]⟩ : ByteArray).size := by simp only [ByteArray.size_append, e1]; omega
        have s3 : ¬ 9223372036854775807 < ((ls ++ nm) ++ ⟨#[32]⟩).size + dg.size := by simp only [ByteArray.size_append, e1]; omega
        have s4 : ¬ 9223372036854775807 < (((ls ++ nm) ++ ⟨#[32]⟩) ++ dg).size + (⟨#[10]⟩ : ByteArray).size := by simp only [ByteArray.size_append, e1, e2]; omega
        have s5 : ¬ 9223372036854775807 < ((((ls ++ nm) ++ ⟨#[32]⟩) ++ dg) ++ ⟨#[10]⟩).size + tx.size := by simp only [ByteArray.size_append, e1, e2]; omega
        have s6 : ¬ 9223372036854775807 < (((((ls ++ nm) ++ ⟨#[32]⟩) ++ dg) ++ ⟨#[10]⟩) ++ tx).size + (⟨#[10]⟩ : ByteArray).size := by simp only [ByteArray.size_append, e1, e2]; omega
        clear hcl hd hls hn5 e1 e2
        go_wp2_with fail
        refine wp_region_own (Below w2.heap.size w2) (by kernel_rfl) (by kernel_rfl) hRefl.out ?_
        repeat (go_big_quiet_step (first | (go_at_call 13; with_reducible exact own_call (HDe.out _ (Wd.h _))) | (go_at_call 13; with_reducible exact own_call (HDm.out _ (Wd.h _)))))
        refine wpQuiet_nil ?_
        intro w3 hB3
        have HB3 : Hid (Below w.heap.size w w3 ∧ Blk w3 w.heap.size #[.slice pa pl pc, .slice (some ⟨b, o, none⟩) N.length nc] 31) := ⟨HB2.out.1.trans (hB3.mono HB2.out.1.size), HB2.out.2.below hB3 HB2.out.2.lt⟩
        clear hB3 z0 z1
        go_wp2_with fail
        go_roundw
        case rel => exact ⟨k + 1, by omega, by go_num, by rw [HE.out]; simp only [ByteArray.append_assoc], HB3⟩
        case measure => simp [intOf]; omega
      · have hke : k = N.length := by omega
        subst hke
        rw [List.take_length] at hls ⊢
        generalize linesV P N = ls at *
        have e3 : (⟨#[101, 110, 100, 10]⟩ : ByteArray).size = 4 := rfl
        have s1 : ¬ 9223372036854775807 < ls.size + (⟨#[101, 110, 100, 10]⟩ : ByteArray).size := by omega
        go_wp2_with fail
        go_ret
        exact ⟨by rw [HR.out]; rfl, HB.out.1⟩

end Go.Proofs.YtblcmnlbapbebaaDoor
