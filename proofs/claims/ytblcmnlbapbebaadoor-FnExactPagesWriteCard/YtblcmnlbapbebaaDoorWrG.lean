/- The program's PagesWrite. -/
import Derived.Test.YtblcmnlbapbebaaDoorWrV
import Derived.Test.YtblcmnlbapbebaaDoorPgSh
import Derived.Test.YtblcmnlbapbebaaDoorGtT
import Derived.Test.YtblcmnlbapbebaaDoorTabI
import Derived.Test.YtblcmnlbapbebaaDoorCode
namespace Go.Proofs.YtblcmnlbapbebaaDoor
open Go.RowKit

/-- Between two rounds: the builder holds the lines of k names. -/
structure WrI (w : World) (bs : ByteArray) (W : World) : Prop where
  below : Below w.heap.size w W
  bd : ∃ v, BdK W (w.heap.size + 1) w.heap.size v (Lib.strCells bs)
  size : w.heap.size + 1 ≤ W.heap.size
theorem WrI.keep {w : World} {bs : ByteArray} {W W' : World} (h : WrI w bs W) (hb : Below W.heap.size W W') : WrI w bs W' := by
  have hz := h.size
  obtain ⟨v, hv⟩ := h.bd
  exact ⟨h.below.trans (hb.mono h.below.size), ⟨v, hv.of (hb.block _ (by omega)) fun g hg => hb.block g (hv.row.lt g hg).2⟩, Nat.le_trans hz hb.size⟩
theorem WrI.write {w : World} {bs s : ByteArray} {W : World} (h : WrI w bs W) (h1 : bs.size ≤ 100000) (h2 : s.size ≤ 100000) :
    Calls Tryd.prog 34 #[.pointer (some ⟨w.heap.size, 0, none⟩), .string s] W fun e W' => e = .returned (.tuple #[.int .i64 s.size, .nilIface]) ∧ WrI w (bs ++ s) W' := by
  have hz := h.size
  obtain ⟨v, hv⟩ := h.bd
  refine (writeK_any (w.heap.size + 1) w.heap.size v _ s W hv (by rw [Lib.strCells_length]; omega) hz).mono ?_
  rintro e W' ⟨g1, ⟨v', g2, _⟩, g3⟩
  refine ⟨g1, ?_, ⟨v', ?_⟩, Nat.le_trans hz g3.size⟩
  · exact ⟨g3.os.trans h.below.os, g3.tape.trans h.below.tape, g3.output.trans h.below.output, Nat.le_trans h.below.size g3.size, fun j hj => (g3.block j (by omega) ⟨by omega, fun e => by have := (hv.row.lt j e).1; omega⟩).trans (h.below.block j hj)⟩
  · have e2 : Lib.strCells (bs ++ s) = Lib.strCells bs ++ Lib.strCells s := by simp [Lib.strCells]
    rw [e2]; exact g2
theorem WrI.part {w : World} {P : List Pg} {N : List Pn} {k m : Nat} {c : List Nat} {e0 : Int} {W : World} (h : WrI w (linesV P (N.take k)) W) (hk : k < N.length) (hls : (linesV P (N.take k)).size ≤ k * 3029) (hfew : N.length ≤ 16) (hp : PartOk P N[k] m c e0) :
    Calls Tryd.prog 34 #[.pointer (some ⟨w.heap.size, 0, none⟩), .string (((((N[k].name ++ ⟨#[32]⟩) ++ dgs m) ++ ⟨#[10]⟩) ++ catP P c) ++ ⟨#[10]⟩)] W fun e W' => ∃ n, e = .returned (.tuple #[.int .i64 n, .nilIface]) ∧ WrI w (linesV P (N.take (k + 1))) W' := by
  have h2 := h.write (s := partV P N[k]) (by omega) (by have := hp.sized; omega)
  rw [← linesV_succ P N k hk, hp.part] at h2
  exact h2.mono fun e W' ⟨h3, h4⟩ => ⟨_, h3, h4⟩
theorem WrI.string {w : World} {bs : ByteArray} {W : World} (h : WrI w bs W) :
    Calls Tryd.prog 37 #[.pointer (some ⟨w.heap.size, 0, none⟩)] W fun e W' => e = .returned (.string bs) ∧ Below w.heap.size w W' := by
  have hz := h.size
  obtain ⟨v, hv⟩ := h.bd
  have hb := hv.is (by omega)
  rw [Lib.strCells_eq] at hb
  have h2 := Tryd.Builder_String_any_k w.heap.size w.heap.size _ W (Lib.IsBuilderF.of hb) (by omega)
  have h3 : (⟨bs.data.toList.toArray⟩ : ByteArray) = bs := by simp
  rw [h3] at h2
  exact h2.mono fun e W' ⟨g1, _, g2, _⟩ => ⟨g1, h.below.trans (g2.mono (by omega))⟩

theorem ShT.text {w0 : World} {P : List Pg} {N : List Pn} {sb lb lcap : Nat} {mv : Value} {tb : Nat} {tt : TypeId} {iv : Value} {xs : List Nat} {T1 : List Bool} {W : World} (hT : ShT w0 P N sb lb lcap mv tb tt iv xs T1 W) (nm : ByteArray) (first : Int) (m : Nat) (c : List Nat) (e0 : Int) (hP : P.length = 96) (hm : m ≤ 3000) (hch : chainV P first m = some (c, e0)) :
    Calls Tryd.prog 36 #[.pointer (some ⟨sb, 0, none⟩), .agg #[.string nm, .int .i64 first, .int .i64 (m : Int)]] W (fun e w' => e = .returned (.string (catP P c)) ∧ Below W.heap.size W w') := by
  have hrow := hT.lrow
  exact text_any P nm first m c e0 sb lb lcap W hP hm hch hT.c0 (fun i hi => by
    obtain ⟨z0, z1, z2⟩ := flat3_at fPg P i hi
    have cl : ∀ j u, (flat3 fPg P)[j]? = some u → W.cell? ⟨lb, j, none⟩ = some u := fun j u hu => by
      by_cases hj : j < 96 * 3
      · rw [hrow.cellAt j hj]; exact hu
      · rw [List.getElem?_eq_none (by rw [flat3_length]; omega)] at hu; cases hu
    exact ⟨cl _ _ z0, cl _ _ z1, cl _ _ z2⟩) hT.q.lt (hrow.lt lb rfl).2

set_option maxRecDepth 100000 in
set_option maxHeartbeats 4000000 in
theorem write_any (P : List Pg) (N : List Pn) (T : List Bool) (w0 w : World) (B sb lb lcap : Nat) (mv : Value) (tb : Nat) (tt : TypeId) (iv : Value) (hk : okV P N = some T) (hT : ShT w0 P N sb lb lcap mv tb tt iv (freeN T 96) T w) (hTab : Tab B w) (hB : B ≤ w.heap.size) :
    Calls Tryd.prog 18 #[.pointer (some ⟨sb, 0, none⟩)] w fun e w' => e = .returned (.string (linesV P N ++ ⟨#[101, 110, 100, 10]⟩)) ∧ Below w.heap.size w w' := by
  have HNm := hide (okV_nms hk)
  have HK := hide hk
  obtain ⟨qa, qc, rfl⟩ := ownsRow_form hT.nrow
  have HT := hide hT
  have HTab := hide (fun W (h : Below w.heap.size w W) => hTab.keep (h.mono hB))
  have hsb := hT.q.lt
  have x1 : ∀ o, (w.alloc o).cell? ⟨sb, 1, none⟩ = some (.slice qa N.length qc) := fun o => (((Below.refl w.heap.size w).alloc (Nat.le_refl _) o).cell (p := ⟨sb, 1, none⟩) hsb).trans hT.c1
  have hfew := HNm.out.few
  have HSz := hide (linesV_size hk)
  clear hT hk hTab
  go_enter Tryd.func18, Tryd.ntmps18
  go_wp2_with fail
  generalize hW : w.alloc (.cells #[.pointer none, .slice none 0 0] 84) = W0
  have HI0 : Hid (WrI w (linesV P (N.take 0)) W0) := by
    subst hW
    refine ⟨(Below.refl _ _).alloc (Nat.le_refl _) _, ⟨.slice none 0 0, ?_⟩, by simp⟩
    rw [List.take_zero]
    exact BdK.fresh w _
  clear hW x1
  go_loopw [11] (fun i wr => ∃ k : Nat, i = .int .i64 k ∧ k ≤ N.length ∧ Hid (WrI w (linesV P (N.take k)) wr)) (fun i _ => N.length - (intOf i).toNat)
  case atStart => exact ⟨0, rfl, Nat.zero_le _, HI0⟩
  case round =>
    obtain ⟨k, rfl, hk, HI⟩ := hrel
    clear HI0
    by_cases hlt : k < N.length
    · have hltI : (k : Int) < (N.length : Int) := by omega
      obtain ⟨m, c, e0, hp⟩ := okV_part HK.out k hlt
      have HS := hide (HT.out.step HI.out.below)
      obtain ⟨g, cap, hv, hg1, hg2⟩ := ownsRow_at HS.out.nrow (by omega)
      simp only [Value.slice.injEq, true_and] at hv
      obtain ⟨rfl, rfl⟩ := hv
      obtain ⟨y0, y1, y2⟩ := flat3_at fPn N k hlt
      rw [← HS.out.nrow.cellAt _ (by omega)] at y0 y1 y2
      simp only [fPn] at y0 y1 y2
      rw [hp.size] at y2
      have HP := hide hp
      have hm3 := hp.few
      have hn5 := hp.name
      have hcl := hp.len
      have hd := dgs_size m (by omega)
      have hls := HSz.out k hk
      have hch := hp.chain
      clear hp
      go_upto_region 5 with fail
      generalize hW1 : wr.alloc (Obj.cells #[.string N[k].name, .int .i64 N[k].first, .int .i64 (m : Int)] 40) = W1
      have HW1 : Hid (Below wr.heap.size wr W1 ∧ Blk W1 wr.heap.size #[.string N[k].name, .int .i64 N[k].first, .int .i64 (m : Int)] 40) := by
        subst hW1; exact ⟨(Below.refl _ _).alloc (Nat.le_refl _) _, Blk.new _ _ _⟩
      have HI1 := hide (HI.out.keep HW1.out.1)
      have HIt : Hid (∀ W, Below W1.heap.size W1 W → Calls Tryd.prog 35 #[.int .i64 (m : Int)] W fun e w' => e = .returned (.string (dgs m)) ∧ Below W1.heap.size W1 w') := fun W hW =>
        (itoa_any m W B (HTab.out W (HI1.out.below.trans (hW.mono HI1.out.below.size))) (by omega)).mono fun e w' ⟨h1, h2⟩ => ⟨h1, hW.trans (h2.mono hW.size)⟩
      have HTx : Hid (∀ W, Below W1.heap.size W1 W → Calls Tryd.prog 36 #[.pointer (some ⟨sb, 0, none⟩), .agg #[.string N[k].name, .int .i64 N[k].first, .int .i64 (m : Int)]] W fun e w' => e = .returned (.string (catP P c)) ∧ Below W1.heap.size W1 w') := fun W hW =>
        ((HT.out.step (HI1.out.below.trans (hW.mono HI1.out.below.size))).text N[k].name N[k].first m c e0 HNm.out.len hm3 hch).mono fun e w' ⟨h1, h2⟩ => ⟨h1, hW.trans (h2.mono hW.size)⟩
      have HCl : Hid (∀ W, Below W1.heap.size W1 W → Blk W wr.heap.size #[.string N[k].name, .int .i64 N[k].first, .int .i64 (m : Int)] 40) := fun W hW => HW1.out.2.below hW HW1.out.2.lt
      have x0 := HW1.out.2.cell 0 _ rfl
      have x1 := HW1.out.2.cell 1 _ rfl
      have x2 := HW1.out.2.cell 2 _ rfl
      have e1 : (⟨#[32]⟩ : ByteArray).size = 1 := rfl
      have e2 : (⟨#[10]⟩ : ByteArray).size = 1 := rfl
      have HWr : Hid (∀ W, Below W1.heap.size W1 W → Calls Tryd.prog 34 #[.pointer (some ⟨w.heap.size, 0, none⟩), .string (((((N[k].name ++ ⟨#[32]⟩) ++ dgs m) ++ ⟨#[10]⟩) ++ catP P c) ++ ⟨#[10]⟩)] W fun e W' => ∃ n, e = .returned (.tuple #[.int .i64 n, .nilIface]) ∧ WrI w (linesV P (N.take (k + 1))) W') := fun W hW => (HI1.out.keep hW).part hlt hls hfew HP.out
      clear hW1 HW1 y0 y1 y2 HS hch
      generalize N[k].name = nm at *
      generalize N[k].first = fst at *
      generalize catP P c = tx at *
      generalize dgs m = dg at *
      have s1 : ¬ 9223372036854775807 < nm.size + (⟨#[32]⟩ : ByteArray).size := by omega
      have s2 : ¬ 9223372036854775807 < (nm ++ ⟨#[32]⟩).size + dg.size := by simp only [ByteArray.size_append, e1]; omega
      have s3 : ¬ 9223372036854775807 < ((nm ++ ⟨#[32]⟩) ++ dg).size + (⟨#[10]⟩ : ByteArray).size := by simp only [ByteArray.size_append, e1, e2]; omega
      have s4 : ¬ 9223372036854775807 < (((nm ++ ⟨#[32]⟩) ++ dg) ++ ⟨#[10]⟩).size + tx.size := by simp only [ByteArray.size_append, e1, e2]; omega
      have s5 : ¬ 9223372036854775807 < ((((nm ++ ⟨#[32]⟩) ++ dg) ++ ⟨#[10]⟩) ++ tx).size + (⟨#[10]⟩ : ByteArray).size := by simp only [ByteArray.size_append, e1, e2]; omega
      have r1 : ¬ 9223372036854775807 < nm.size + 1 := by omega
      have r2 : ¬ 9223372036854775807 < nm.size + 1 + dg.size := by omega
      have r3 : ¬ 9223372036854775807 < nm.size + 1 + dg.size + 1 := by omega
      have r4 : ¬ 9223372036854775807 < nm.size + 1 + dg.size + 1 + tx.size := by omega
      have r5 : ¬ 9223372036854775807 < nm.size + 1 + dg.size + 1 + tx.size + 1 := by omega
      have t2 : ¬ 9223372036854775807 < nm.size + (⟨#[32]⟩ : ByteArray).size + dg.size := by omega
      have t3 : ¬ 9223372036854775807 < nm.size + (⟨#[32]⟩ : ByteArray).size + dg.size + (⟨#[10]⟩ : ByteArray).size := by omega
      have t4 : ¬ 9223372036854775807 < nm.size + (⟨#[32]⟩ : ByteArray).size + dg.size + (⟨#[10]⟩ : ByteArray).size + tx.size := by omega
      have t5 : ¬ 9223372036854775807 < nm.size + (⟨#[32]⟩ : ByteArray).size + dg.size + (⟨#[10]⟩ : ByteArray).size + tx.size + (⟨#[10]⟩ : ByteArray).size := by omega
      clear hcl hd hls hn5 hm3 HI HI1 HTab HT HK HNm e1 e2
      go_region_with (first
        | (go_at_call 34
           refine (HWr.out _ (by first | exact HBa.out | exact HBb.out)).mono ?_
           rintro e W' ⟨nz, rfl, hI2⟩
           have HI2 := hide hI2
           clear hI2)
        | (go_at_call 35
           refine (HIt.out _ (by first | exact (Below.refl _ _).drew | exact Below.refl _ _ | exact HBb.out)).mono ?_
           rintro e wa ⟨rfl, hBa⟩
           have HBa := hide hBa
           have a0 := (HCl.out _ hBa).cell 0 _ rfl
           have a1 := (HCl.out _ hBa).cell 1 _ rfl
           have a2 := (HCl.out _ hBa).cell 2 _ rfl
           clear hBa)
        | (go_at_call 36
           refine (HTx.out _ (by first | exact (Below.refl _ _).drew | exact Below.refl _ _ | exact HBa.out)).mono ?_
           rintro e wb ⟨rfl, hBb⟩
           have HBb := hide hBb
           have b0 := (HCl.out _ hBb).cell 0 _ rfl
           have b1 := (HCl.out _ hBb).cell 1 _ rfl
           have b2 := (HCl.out _ hBb).cell 2 _ rfl
           clear hBb))
      all_goals
        go_wp2_with fail
        go_roundw
        case rel => exact ⟨k + 1, by go_num, by omega, HI2⟩
        case measure => simp [intOf]; omega
    · have hke : k = N.length := by omega
      subst hke
      rw [List.take_length] at HI
      have hls := HSz.out N.length (Nat.le_refl _)
      rw [List.take_length] at hls
      have HWe := hide (HI.out.write (s := ⟨#[101, 110, 100, 10]⟩) (by omega) (by show 4 ≤ 100000; omega))
      obtain ⟨ls, hl⟩ : ∃ ls, linesV P N = ls := ⟨_, rfl⟩
      have HL := hide hl
      rw [hl] at HWe hls
      clear hl HI
      clear HT HTab HK HNm HSz
      go_wp2_with fail
      refine HWe.out.mono ?_
      rintro e W' ⟨rfl, hI⟩
      have HSt := hide hI.string
      clear hI
      go_wp2_with fail
      refine HSt.out.mono ?_
      rintro e W2 ⟨rfl, hB2⟩
      have HB2 := hide hB2
      clear hB2
      go_wp2_with fail
      go_ret
      exact ⟨by rw [HL.out]; rfl, HB2.out⟩

set_option maxHeartbeats 2000000 in
theorem implWrite_any (P : List Pg) (N : List Pn) (pv nv : Value) (w : World) (lo hi B : Nat) (hp : RcsAt fPg w lo hi pv P) (hn : RcsAt fPn w lo hi nv N) (hhi : hi ≤ w.heap.size)
    (hs : ∀ (i : Nat) (h : i < P.length), P[i].data.size ≤ maxLen) (hsn : ∀ (i : Nat) (h : i < N.length), N[i].name.size ≤ maxLen) (hg : Laid0 w) (hT : Tab B w) (hB : B ≤ w.heap.size) :
    Calls Tryd.prog 7 #[.agg #[pv, nv]] w fun e w' => e = .returned (.string (writeV P N)) ∧ Below w.heap.size w w' := by
  have HSh := hide (fun (W : World) (hW : Below w.heap.size w W) => shelfOf_any P N pv nv W lo hi (hp.keep hW hhi) (hn.keep hW hhi) (Nat.le_trans hhi hW.size) hs hsn)
  obtain ⟨pa, pl, pc, rfl⟩ : ∃ a n c, pv = .slice a n c := by obtain ⟨a, c, e, _⟩ := hp; exact ⟨_, _, _, e⟩
  obtain ⟨na, nl, nc, rfl⟩ : ∃ a n c, nv = .slice a n c := by obtain ⟨a, c, e, _⟩ := hn; exact ⟨_, _, _, e⟩
  have HBo : Hid (∀ o, Below w.heap.size w (w.alloc o)) := fun o => (Below.refl _ _).alloc (Nat.le_refl _) o
  have HG := hide hg
  have HGl := hide hg.lt
  have HTab := hide (fun W (h : Below w.heap.size w W) => hT.keep (h.mono hB))
  clear hp hn hg hT
  go_enter Tryd.func7, Tryd.ntmps7
  go_wp2_with fail
  refine (HSh.out _ (HBo.out _)).mono ?_
  rintro e w1 ⟨hB1, hno, hyes⟩
  have HB1 : Hid (Below w.heap.size w w1) := (HBo.out _).trans (hB1.mono (HBo.out _).size)
  cases hk : okV P N with
  | none =>
    obtain rfl := hno hk
    have HC := hide (codeOf_ref 1 w1 (HG.out.below HB1.out HGl.out))
    have HR := hide (writeV_no hk)
    clear hB1 hno hyes
    go_wp2_with fail
    refine HC.out.mono ?_
    rintro e w2 ⟨rfl, hB2⟩
    have HB2 : Hid (Below w.heap.size w w2) := HB1.out.trans (hB2.mono HB1.out.size)
    clear hB2
    go_wp2_with fail
    go_ret
    exact ⟨by rw [HR.out]; rfl, HB2.out⟩
  | some T =>
    obtain ⟨sb, lb, lcap, mv, tb, tt, iv, rfl, hT⟩ := hyes T hk
    have HC := hide (codeOf_nil w1)
    have HT := hide hT
    have HK := hide hk
    have HR := hide (writeV_yes hk)
    clear hB1 hno hyes hT hk
    go_wp2_with fail
    refine HC.out.mono ?_
    rintro e w2 ⟨rfl, hB2⟩
    have HB2 : Hid (Below w.heap.size w w2) := HB1.out.trans (hB2.mono HB1.out.size)
    have HGt := hide (write_any P N T _ w2 B sb lb lcap mv tb tt iv HK.out (HT.out.step hB2) (HTab.out _ HB2.out) (Nat.le_trans hB HB2.out.size))
    clear hB2 HT
    go_wp2_with fail
    refine HGt.out.mono ?_
    rintro e w3 ⟨rfl, hB3⟩
    have HB3 : Hid (Below w.heap.size w w3) := HB2.out.trans (hB3.mono HB2.out.size)
    clear hB3
    go_wp2_with fail
    go_ret
    exact ⟨by rw [HR.out]; rfl, HB3.out⟩

end Go.Proofs.YtblcmnlbapbebaaDoor
