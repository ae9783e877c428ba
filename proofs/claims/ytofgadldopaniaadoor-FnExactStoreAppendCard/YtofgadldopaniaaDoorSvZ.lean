/- StoreAppend, by the specification. -/
import Derived.Test.YtofgadldopaniaaDoorSvX
import Derived.Test.YtofgadldopaniaaDoorSvAv
import Derived.Test.YtofgadldopaniaaDoorSvHg
import Derived.Deep.QuietTactic
import Derived.BigQuiet
import Derived.Deep.RegionLaw
import Derived.Deep.AppendLies
import Derived.Deep.CutRange
import Derived.Deep.RegionHeld3
namespace Go.Proofs.YtofgadldopaniaaDoor
open Go.RowKit

theorem SvBx.two {w : World} {a : Option Addr} {n cap : Nat} {gen : Int} {text : ByteArray} {next : Int} {W : World} (h : SvBx w a n cap gen text next W) : SvB2 w a n cap gen text next W := ⟨h.box, h.res, h.below, h.size⟩
theorem SvBx.drewN {w : World} {a : Option Addr} {n cap : Nat} {gen : Int} {text : ByteArray} {next : Int} {W : World} (h : SvBx w a n cap gen text next W) (k : Nat) : SvBx w a n cap gen text next (W.drewN k) := h.next (below_drewN (Below.refl _ _) k)
theorem SvB2.alloc {w : World} {a : Option Addr} {n cap : Nat} {gen : Int} {text : ByteArray} {next : Int} {W : World} (h : SvB2 w a n cap gen text next W) (o : Obj) : SvB2 w a n cap gen text next (W.alloc o) := h.next ((Below.refl _ _).alloc (Nat.le_refl _) o)
/-- What an append to a row of writes leaves. -/
theorem SvB2.grown {w : World} {a : Option Addr} {n cap : Nat} {gen : Int} {text : ByteArray} {next : Int} {W W' : World} {v : Value} {L : List Rw} (h : SvB2 w a n cap gen text next W) (hR : RwRow W (w.heap.size + 2) v L) (hg : W.grownBy W' v.ownBlock) : SvB2 w a n cap gen text next W' :=
  ⟨h.box.grown hg (fun e => by have := row_base hR _ e.symm; omega), h.res.grown hg (fun e => by have := row_base hR _ e.symm; omega), h.below.grown hg h.below.size (fun k hk => by have := row_base hR k hk; omega), Nat.le_trans h.size hg.size⟩

/-- Where the writes of a group are gathered. -/
structure GwL (w : World) (a : Option Addr) (n cap : Nat) (gen : Int) (text : ByteArray) (next : Int) (v : Value) (L : List Rw) (W : World) : Prop where
  bx : SvB2 w a n cap gen text next W
  row : RwRow W (w.heap.size + 2) v L
theorem GwL.next {w : World} {a : Option Addr} {n cap : Nat} {gen : Int} {text : ByteArray} {next : Int} {v : Value} {L : List Rw} {W W' : World} (h : GwL w a n cap gen text next v L W) (hb : Below W.heap.size W W') : GwL w a n cap gen text next v L W' := ⟨h.bx.next hb, h.row.keep hb⟩
theorem GwL.drew {w : World} {a : Option Addr} {n cap : Nat} {gen : Int} {text : ByteArray} {next : Int} {v : Value} {L : List Rw} {W : World} (h : GwL w a n cap gen text next v L W) : GwL w a n cap gen text next v L W.drew := ⟨h.bx.drew, h.row⟩
theorem GwL.put {w : World} {a : Option Addr} {n cap : Nat} {gen : Int} {text : ByteArray} {next : Int} {v v' : Value} {L : List Rw} {W W' : World} {o : Obj} {p : Int} {d : ByteArray} {N : Nat} (h : GwL w a n cap gen text next v L W) (hN : L.length = N) (hg : (W.alloc o).grownBy W' v.ownBlock)
    (ho : W'.ownsRow (w.heap.size + 2) 42 2 v' (N + 1) (rawC L ++ [.int .i64 p, .string d])) : GwL w a n cap gen text next v' (L ++ [⟨p, d⟩]) W' :=
  ⟨(h.bx.alloc o).grown (h.row.keep ((Below.refl _ _).alloc (Nat.le_refl _) o)) hg, RwRow.snoc hN.symm ho⟩
theorem GwL.at {w : World} {a : Option Addr} {n cap : Nat} {gen : Int} {text : ByteArray} {next : Int} {v : Value} {L : List Rw} {W : World} {N : Nat} (h : GwL w a n cap gen text next v L W) (hN : L.length = N) : W.ownsRow (w.heap.size + 2) 42 2 v N (rawC L) := rwrow_at h.row hN

/-- Where the store with the group stands ready. -/
structure Tl (w : World) (a : Option Addr) (n cap : Nat) (gen : Int) (text : ByteArray) (next : Int) (v : Value) (L : List Rw) (b10 B5 : Nat) (A10 : Array Value) (v7 : Value) (G : List ByteArray) (W : World) : Prop where
  bx : SvB2 w a n cap gen text next W
  row : RwRow W (w.heap.size + 2) v L
  box : Blk W b10 A10 32
  str : StrRow W B5 v7 G
  lt : ∀ k, v.ownBlock = some k → k < B5
  ne : ∀ k, v7.ownBlock = some k → k ≠ b10
  ord : w.heap.size + 2 ≤ B5 ∧ B5 ≤ b10
theorem Tl.set {w : World} {a : Option Addr} {n cap : Nat} {gen : Int} {text : ByteArray} {next : Int} {v : Value} {L : List Rw} {b10 B5 : Nat} {A10 : Array Value} {v7 : Value} {G : List ByteArray} {W : World} (h : Tl w a n cap gen text next v L b10 B5 A10 v7 G W) (j : Nat) (u : Value) : Tl w a n cap gen text next v L b10 B5 (A10.setIfInBounds j u) v7 G (W.setCell ⟨b10, j, none⟩ u) := by
  have ho := h.ord
  refine ⟨⟨h.bx.box.other _ _ (by show w.heap.size ≠ b10; omega), h.bx.res.other _ _ (by show w.heap.size + 1 ≠ b10; omega), h.bx.below.setCell (p := ⟨b10, j, none⟩) (by show _ ≤ b10; omega) _, by have := h.bx.size; simp [World.setCell]; omega⟩,
    ownsRow_same h.row fun g hg => Below.heap_setCell _ _ _ _ (by show g ≠ b10; have := h.lt g hg; omega), h.box.set j u, ownsRow_same h.str fun g hg => Below.heap_setCell _ _ _ _ (by show g ≠ b10; exact h.ne g hg), h.lt, h.ne, h.ord⟩
theorem Tl.drew {w : World} {a : Option Addr} {n cap : Nat} {gen : Int} {text : ByteArray} {next : Int} {v : Value} {L : List Rw} {b10 B5 : Nat} {A10 : Array Value} {v7 : Value} {G : List ByteArray} {W : World} (h : Tl w a n cap gen text next v L b10 B5 A10 v7 G W) : Tl w a n cap gen text next v L b10 B5 A10 v7 G W.drew := ⟨h.bx.drew, h.row, h.box, h.str, h.lt, h.ne, h.ord⟩
theorem Out.drew {w w' : World} {V : List Rw × St × Int} {e : Ending} (h : Out w V e w') : Out w V e w'.drew := ⟨h.below.drew, h.size, h.out⟩

theorem cell_two_drew {W : World} {A : Array Value} {t : TypeId} {x y : Value} (h : A = #[x, y]) : ∀ j u, [x, y][j]? = some u → (W.alloc (.cells A t)).drew.cell? ((⟨W.heap.size, 0, none⟩ : Addr).add j) = some u := cell_two_at h

set_option maxHeartbeats 16000000 in
set_option maxRecDepth 100000 in
theorem specStoreAppend_any (s : St) (gv : Value) (t : ByteArray) (w : World) (lo hi : Nat) (hv : StrsAt w lo hi gv s.groups) (hhi : hi ≤ w.heap.size) (hl : s.groups.length ≤ 1048576) (ht : s.text.size ≤ 1048576) (ht2 : t.size ≤ 1048576) :
    Calls Tryd.prog 12 #[stV s gv, .string t] w fun e w' => Out w (appendV s t) e w' := by
  have HOk := hide (fun W (h : Below w.heap.size w W) => l22Ok_any s gv W lo hi (hv.keep h hhi) (Nat.le_trans hhi h.size) hl ht)
  have HCp := hide (fun W (h : Below w.heap.size w W) => l22Copy_row s gv W lo hi (hv.keep h hhi) (Nat.le_trans hhi h.size) hl)
  have HGb := hide (fun W => l22Blocks_any t W ht2)
  obtain ⟨a, cap, rfl, _⟩ := id hv
  have HV : Hid (appendV s t = if okS s = true then if t.size ≤ 600 then if s.next + gbl t.size ≤ 12 then (groupV s.gen.toNat s.groups.length s.next.toNat t, ⟨s.gen, s.text, s.groups ++ [t], s.next + gbl t.size⟩, 0) else ([], s, 4) else ([], s, 6) else ([], zeroS, 1)) := rfl
  have HS := hide (okS_next s)
  obtain ⟨gen, text, groups, next⟩ := s
  have hl : groups.length ≤ 1048576 := hl
  have HA : Hid (∀ o1 o2 o3, Below w.heap.size w (((w.alloc o1).alloc o2).alloc o3) ∧ w.heap.size + 2 ≤ (((w.alloc o1).alloc o2).alloc o3).heap.size) := fun o1 o2 o3 => ⟨(((Below.refl _ _).alloc (Nat.le_refl _) o1).alloc (by simp) o2).alloc (by simp; omega) o3, by simp⟩
  show Calls Tryd.prog 12 #[.agg #[.int .i64 gen, .string text, .slice a groups.length cap, .int .i64 next], .string t] w _
  generalize hVV : appendV ⟨gen, text, groups, next⟩ t = V at *
  clear hVV
  have hPre : ∀ W, W = ((w.alloc (.cells #[.int .i64 gen, .string text, .slice a groups.length cap, .int .i64 next] 32)).alloc (.cells #[.int .i64 0, .string ⟨#[]⟩, .slice none 0 0, .int .i64 0] 32)).alloc (.cells #[] 42) → Below w.heap.size w W ∧ SvBx w a groups.length cap gen text next W := fun W hW => by
    subst hW
    exact ⟨(HA.out _ _ _).1, ((Blk.new _ _ _).alloc _).alloc _, (Blk.atn (by simp)).alloc _, RwRow.none (Blk.atn (by simp) : Blk _ (w.heap.size + 1 + 1) _ _) (by omega), (HA.out _ _ _).1, by simp⟩
  have HPre := hide hPre
  clear hPre HA hv
  cases hok : okS ⟨gen, text, groups, next⟩ with
  | false =>
    rw [hok] at HOk
    have hr : V = ([], zeroS, 1) := by rw [HV.out, hok]; rfl
    subst hr
    clear HV HCp HS HGb
    go_enter Tryd.func12, Tryd.ntmps12
    go_wp2_with fail
    generalize hW : ((w.alloc (Obj.cells #[.int .i64 gen, .string text, .slice a groups.length cap, .int .i64 next] 32)).alloc (Obj.cells #[.int .i64 0, .string ⟨#[]⟩, .slice none 0 0, .int .i64 0] 32)).alloc (Obj.cells #[] 42) = W
    obtain ⟨hBW, hX⟩ := HPre.out W hW.symm
    clear hW HPre
    refine (HOk.out W hBW).mono ?_
    rintro e w1 ⟨rfl, hB1⟩
    have hX1 := hX.next hB1
    have HX1 := hide hX1
    have y0 := hX1.res.cell 0 _ rfl
    have y1 := hX1.res.cell 1 _ rfl
    have y2 := hX1.res.cell 2 _ rfl
    have y3 := hX1.res.cell 3 _ rfl
    have g0 := hX1.res.frozen 0
    have g1 := hX1.res.frozen 1
    have g2 := hX1.res.frozen 2
    have g3 := hX1.res.frozen 3
    clear hX1 hX hB1 hBW HOk
    go_wp2_with fail
    refine bodyPost_ret (v := .tuple #[.slice (some ⟨w.heap.size + 1 + 1, 0, none⟩) 0 0, .agg #[.int .i64 0, .string ⟨#[]⟩, .slice none 0 0, .int .i64 0], .int .i64 1]) (by simp [results, Tryd.results12, go_sem, y0, y1, y2, y3]) rfl ?_
    exact out_set (V := ([], zeroS, 1)) _ _ _ _ HX1.out.below HX1.out.size HX1.out.row (StrRow.nil _ _) (fun k _ h => by simp [Value.ownBlock] at h) rfl
  | true =>
    rw [hok] at HOk
    obtain ⟨⟨hg1, hg2⟩, hn0, hn1⟩ := HS.out hok
    have hg1 : 1 ≤ gen := hg1
    have hg2 : gen ≤ 99999 := hg2
    have hn0 : 0 ≤ next := hn0
    have hn1 : next ≤ 12 := hn1
    have HV2 : Hid (V = if t.size ≤ 600 then if next + gbl t.size ≤ 12 then (groupV gen.toNat groups.length next.toNat t, ⟨gen, text, groups ++ [t], next + gbl t.size⟩, 0) else ([], ⟨gen, text, groups, next⟩, 4) else ([], ⟨gen, text, groups, next⟩, 6)) := by show _ = _; rw [HV.out, hok]; rfl
    clear HV HS hok
    have HCpT : Hid (∀ W, Below w.heap.size w W → Calls Tryd.prog 27 #[.agg #[.int .i64 gen, .string text, .slice a groups.length cap, .int .i64 next]] W fun e w' => ∃ a2 c2, e = .returned (.agg #[.int .i64 gen, .string text, .slice a2 groups.length c2, .int .i64 next]) ∧ StrRow w' W.heap.size (.slice a2 groups.length c2) groups ∧ Below W.heap.size W w') := fun W hW =>
      (HCp.out W hW).mono fun e w' ⟨v', h1, h2, h3⟩ => by
        obtain ⟨a2, c2, rfl⟩ := ownsRow_form h2
        exact ⟨a2, c2, h1, h2, h3⟩
    clear HCp
    go_enter Tryd.func12, Tryd.ntmps12
    go_wp2_with fail
    generalize hW : ((w.alloc (Obj.cells #[.int .i64 gen, .string text, .slice a groups.length cap, .int .i64 next] 32)).alloc (Obj.cells #[.int .i64 0, .string ⟨#[]⟩, .slice none 0 0, .int .i64 0] 32)).alloc (Obj.cells #[] 42) = W
    obtain ⟨hBW, hX⟩ := HPre.out W hW.symm
    clear hW HPre
    refine (HOk.out W hBW).mono ?_
    rintro e w1 ⟨rfl, hB1⟩
    have HX1 := hide (hX.next hB1)
    have x0 := HX1.out.box.cell 0 _ rfl
    have x1 := HX1.out.box.cell 1 _ rfl
    have x2 := HX1.out.box.cell 2 _ rfl
    have x3 := HX1.out.box.cell 3 _ rfl
    clear hX hB1 hBW HOk
    by_cases htt : t.size ≤ 600
    · have HV3 : Hid (V = if next + gbl t.size ≤ 12 then (groupV gen.toNat groups.length next.toNat t, ⟨gen, text, groups ++ [t], next + gbl t.size⟩, 0) else ([], ⟨gen, text, groups, next⟩, 4)) := by show _ = _; rw [HV2.out, if_pos htt]
      clear HV2
      have hgb : gbl t.size ≤ 11 := by unfold gbl; omega
      have HGN : Hid (gbl t.size = 1 + (t.size + 62) / 63) := rfl
      generalize gbl t.size = q at *
      have hwq : IntKind.i64.wrap (next + (q : Int)) = next + (q : Int) := by rw [IntKind.wrap_i64]; omega
      go_wp2_with fail
      go_quiet ((go_at_call 28; exact Calls.quiet_of_same (HGb.out _)))
      have HX2 := hide (HX1.out.drewN nq)
      clear x0 x1 x2 x3 HX1
      generalize w1.drewN nq = W1 at *
      have x0 := HX2.out.box.cell 0 _ rfl
      have x1 := HX2.out.box.cell 1 _ rfl
      have x2 := HX2.out.box.cell 2 _ rfl
      have x3 := HX2.out.box.cell 3 _ rfl
      by_cases hfit : next + q ≤ 12
      · have hr : V = (groupV gen.toNat groups.length next.toNat t, ⟨gen, text, groups ++ [t], next + q⟩, 0) := by rw [HV3.out, if_pos hfit]
        subst hr
        clear HV3
        have HP := hide (fun (i : Nat) (hi : i ≤ 1048576) W => l22Piece_any t i 63 W ht2 (by omega) hi)
        obtain ⟨nx, hnx⟩ : ∃ nx : Nat, next = (nx : Int) := ⟨next.toNat, by omega⟩
        obtain ⟨gn, hgn⟩ : ∃ gn : Nat, gen = (gn : Int) := ⟨gen.toNat, by omega⟩
        subst hnx hgn
        have HGV : Hid (groupV (gn : Int).toNat groups.length (nx : Int).toNat t = wrs (fun i => ⟨#[68]⟩ ++ piece t 63 i) (2 + nx + 1) ((t.size + 62) / 63) ++ [⟨2 + (nx : Int), headH gn groups.length t.size⟩]) := by
          show _ = _
          have e : ((2 + nx : Nat) : Int) = 2 + (nx : Int) := by omega
          rw [groupV, Int.toNat_natCast, Int.toNat_natCast, e]
        have HSu := hide (fun k => wrs_succ (fun i => ⟨#[68]⟩ ++ piece t 63 i) (2 + nx + 1) k)
        have HLn := hide (fun k => wrs_length (fun i => ⟨#[68]⟩ ++ piece t 63 i) (2 + nx + 1) k)
        have hF := hide (fun i => piece_size t 63 i)
        have HQN : Hid (q = 1 + (t.size + 62) / 63) := HGN.out
        generalize (t.size + 62) / 63 = N at *
        have hNb : N ≤ 10 := by have := HQN.out; omega
        have e68 : (⟨#[68]⟩ : ByteArray).size = 1 := rfl
        clear HGN
        go_wp2_with fail
        go_loopw [8, 9] (fun o i wr => ∃ (ov : Value) (k : Nat), ov = o ∧ k ≤ N ∧ i = .int .i64 k ∧ Hid (GwL w a groups.length cap gn text nx ov (wrs (fun i => ⟨#[68]⟩ ++ piece t 63 i) (2 + nx + 1) k) wr)) (fun _ i _ => N - (intOf i).toNat)
        case atStart => exact ⟨_, 0, rfl, Nat.zero_le _, rfl, HX2.out.two.alloc _, RwRow.none (Blk.new _ _ _) HX2.out.size⟩
        case round =>
          obtain ⟨ov, k, hov, hk, rfl, HG⟩ := hrel
          subst hov
          clear x0 x1 x2 x3 HX2
          have x0 := HG.out.bx.box.cell 0 _ rfl
          have x1 := HG.out.bx.box.cell 1 _ rfl
          have x2 := HG.out.bx.box.cell 2 _ rfl
          have x3 := HG.out.bx.box.cell 3 _ rfl
          by_cases hlt : k < N
          · obtain ⟨iR, hiR', hzR, hsR, hbR⟩ := info_R
            have hiR := hide hiR'
            clear hiR'
            have hltI : (k : Int) < (q : Int) - 1 := by have := HQN.out; omega
            have hw1 : IntKind.i64.wrap (2 + (nx : Int)) = 2 + (nx : Int) := by rw [IntKind.wrap_i64]; omega
            have hw2 : IntKind.i64.wrap (2 + (nx : Int) + 1) = 2 + (nx : Int) + 1 := by rw [IntKind.wrap_i64]; omega
            have hw3 : IntKind.i64.wrap (2 + (nx : Int) + 1 + (k : Int)) = 2 + (nx : Int) + 1 + (k : Int) := by rw [IntKind.wrap_i64]; omega
            have z1 := hF.out k
            have hsk := HSu.out k
            have hlk := HLn.out k
            have HPk := hide (HP.out k (by omega))
            have HSk := hide hsk
            have HLk := hide hlk
            clear hsk hlk
            generalize hL0 : wrs (fun i => ⟨#[68]⟩ ++ piece t 63 i) (2 + nx + 1) k = L0 at *
            have hxl : (rawC L0).length = k * 2 := by rw [rawC_length, HLk.out]
            generalize hpk : piece t 63 k = pk at *
            have HPos : Hid (2 + (nx : Int) + 1 + (k : Int) = ((2 + nx + 1 + k : Nat) : Int)) := by show _ = _; omega
            have z2 : ¬ 9223372036854775807 < 1 + pk.size := by omega
            have z3 : ¬ 9223372036854775807 < (⟨#[68]⟩ : ByteArray).size + pk.size := by rw [e68]; omega
            go_wp2_with (go_at_call 28; refine (HGb.out _).mono ?_; rintro e3 w3 ⟨rfl, rfl⟩)
            have HRow : Hid (∀ o, (w3.alloc o).drew.ownsRow (w.heap.size + 2) 42 2 ov k (rawC L0)) := fun o => (HG.out.at HLk.out).alloc o
            have HSzz : Hid (∀ o, w.heap.size + 2 ≤ (w3.alloc o).drew.heap.size) := fun o => by
              have := HG.out.bx.size
              show _ ≤ (w3.alloc o).heap.size
              simp; omega
            have HPut : Hid (∀ o v' W' p d, (w3.alloc o).drew.grownBy W' ov.ownBlock → W'.ownsRow (w.heap.size + 2) 42 2 v' (k + 1) (rawC L0 ++ [.int .i64 p, .string d]) → GwL w a groups.length cap gn text nx v' (L0 ++ [⟨p, d⟩]) W') := fun o v' W' p d h1 h2 => GwL.put (W := w3.drew) (o := o) HG.out.drew HLk.out h1 h2
            go_region_law (first
              | (refine step_append_lies _ rfl (.tmp 40) (.tmp 52) 22 rfl (w.heap.size + 2) 42 iR (.agg zeroR) 2 24 Tryd.underlying22 hiR.out hzR hsR hbR rfl (by decide) ov k (rawC L0) (by first | (simp [Act.eval]; done) | simp [Act.eval, Act.put]) (HRow.out _) ⟨w3.heap.size, 0, none⟩ 1 1 [.int .i64 (2 + (nx : Int) + 1 + (k : Int)), .string (⟨#[68]⟩ ++ pk)] (by first | (simp [Act.eval]; done) | simp [Act.eval, Act.put]) (by simp) (cell_two_drew rfl) (by simp [Value.oneCell']) (by decide) (by unfold maxLen; omega) (by omega) (HSzz.out _) _ rfl ?_
                 intro g6 c6 w6 hown hgrow hat hgl
                 have HE := hide (HPut.out _ _ _ _ _ hgrow hown)
                 clear hown hgrow hat hgl)
              | (rw [if_pos (by simp [Region.wanted])]; go_simp; go_at_call 29; refine (HPk.out _).mono ?_; rintro e4 w4 ⟨rfl, rfl⟩))
            all_goals
              go_wp2_with fail
              go_roundw
              case rel =>
                refine ⟨_, k + 1, rfl, by omega, by go_num, ?_⟩
                show GwL _ _ _ _ _ _ _ _ _ _
                rw [HSk.out, ← HPos.out]
                exact HE.out
              case measure => simp [intOf]; omega
          · have hkN : k = N := by omega
            subst hkN
            obtain ⟨iR, hiR', hzR, hsR, hbR⟩ := info_R
            have hiR := hide hiR'
            clear hiR'
            have HD1 := hide (fun W => l22Dec_any gn gn W (Nat.le_refl _) (by omega))
            have HD2 := hide (fun W => l22Dec_any groups.length groups.length W (Nat.le_refl _) (by omega))
            have HD3 := hide (fun W => l22Dec_any t.size t.size W (Nat.le_refl _) (by omega))
            have HPh : Hid (headH gn groups.length t.size = ((((⟨#[72, 32]⟩ ++ dgs gn) ++ ⟨#[32]⟩) ++ dgs groups.length) ++ ⟨#[32]⟩) ++ dgs t.size) := rfl
            have z1 := dgs_size gn (by omega)
            have z2 := dgs_size groups.length (by omega)
            have z3 := dgs_size t.size (by omega)
            have HLk := hide (HLn.out k)
            have hltI : ¬ ((k : Int) < (q : Int) - 1) := by have := HQN.out; omega
            have hw1 : IntKind.i64.wrap (2 + (nx : Int)) = 2 + (nx : Int) := by rw [IntKind.wrap_i64]; omega
            generalize hL0 : wrs (fun i => ⟨#[68]⟩ ++ piece t 63 i) (2 + nx + 1) k = L0 at *
            have hxl : (rawC L0).length = k * 2 := by rw [rawC_length, HLk.out]
            have HL0 := hide hL0
            generalize hLl : L0 ++ [⟨2 + (nx : Int), headH gn groups.length t.size⟩] = L1 at *
            have HL1 := hide hLl
            clear hL0 hLl
            generalize dgs gn = d1 at *
            generalize dgs groups.length = d2 at *
            generalize dgs t.size = d3 at *
            have e1 : (⟨#[72, 32]⟩ : ByteArray).size = 2 := rfl
            have e2 : (⟨#[32]⟩ : ByteArray).size = 1 := rfl
            have q1 : ¬ 9223372036854775807 < (⟨#[72, 32]⟩ : ByteArray).size + d1.size := by omega
            have q2 : ¬ 9223372036854775807 < ((⟨#[72, 32]⟩ : ByteArray) ++ d1).size + (⟨#[32]⟩ : ByteArray).size := by rw [ByteArray.size_append]; omega
            have q3 : ¬ 9223372036854775807 < (((⟨#[72, 32]⟩ : ByteArray) ++ d1) ++ ⟨#[32]⟩).size + d2.size := by rw [ByteArray.size_append, ByteArray.size_append]; omega
            have q4 : ¬ 9223372036854775807 < ((((⟨#[72, 32]⟩ : ByteArray) ++ d1) ++ ⟨#[32]⟩) ++ d2).size + (⟨#[32]⟩ : ByteArray).size := by rw [ByteArray.size_append, ByteArray.size_append, ByteArray.size_append]; omega
            have q5 : ¬ 9223372036854775807 < (((((⟨#[72, 32]⟩ : ByteArray) ++ d1) ++ ⟨#[32]⟩) ++ d2) ++ ⟨#[32]⟩).size + d3.size := by rw [ByteArray.size_append, ByteArray.size_append, ByteArray.size_append, ByteArray.size_append]; omega
            have q6 : ¬ 9223372036854775807 < 2 + d1.size := by omega
            have q7 : ¬ 9223372036854775807 < 2 + d1.size + 1 := by omega
            have q8 : ¬ 9223372036854775807 < 2 + d1.size + 1 + d2.size := by omega
            have q9 : ¬ 9223372036854775807 < 2 + d1.size + 1 + d2.size + 1 := by omega
            have q10 : ¬ 9223372036854775807 < 2 + d1.size + 1 + d2.size + 1 + d3.size := by omega
            go_wp2_with (go_at_call 28; refine (HGb.out _).mono ?_; rintro e3 w3 ⟨rfl, rfl⟩)
            go_cut [8] from 54 to 75 (fun x wx => ∃ ov', ov' = x ∧ Hid (GwL w a groups.length cap gn text nx ov' L1 wx))
            case first =>
              have HPut : Hid (∀ W o v' W' p d, GwL w a groups.length cap gn text nx ov L0 W → (W.alloc o).grownBy W' ov.ownBlock → W'.ownsRow (w.heap.size + 2) 42 2 v' (k + 1) (rawC L0 ++ [.int .i64 p, .string d]) → GwL w a groups.length cap gn text nx v' (L0 ++ [⟨p, d⟩]) W') := fun W o v' W' p d h0 h1 h2 => GwL.put h0 HLk.out h1 h2
              have HKf : Hid (∀ W ov' L', GwL w a groups.length cap gn text nx ov' L' W → W.cell? ⟨w.heap.size, 0, none⟩ = some (.int .i64 (gn : Int)) ∧ W.cell? ⟨w.heap.size, 2, none⟩ = some (.slice a groups.length cap) ∧ W.cell? ⟨w.heap.size, 3, none⟩ = some (.int .i64 (nx : Int))) := fun W ov' L' h => ⟨h.bx.box.cell 0 _ rfl, h.bx.box.cell 2 _ rfl, h.bx.box.cell 3 _ rfl⟩
              have HK0 : Hid (w3.drew.cell? ⟨w.heap.size, 0, none⟩ = some (.int .i64 (gn : Int)) ∧ w3.drew.cell? ⟨w.heap.size, 2, none⟩ = some (.slice a groups.length cap) ∧ w3.drew.cell? ⟨w.heap.size, 3, none⟩ = some (.int .i64 (nx : Int))) := HKf.out _ _ _ HG.out.drew
              clear x0 x1 x2 x3
              go_region_held3 (fun w' => w'.cell? ⟨w.heap.size, 0, none⟩ = some (.int .i64 (gn : Int)) ∧ w'.cell? ⟨w.heap.size, 2, none⟩ = some (.slice a groups.length cap) ∧ w'.cell? ⟨w.heap.size, 3, none⟩ = some (.int .i64 (nx : Int)))
                (first | with_reducible exact HK6.out | with_reducible exact HKl.out _ | with_reducible exact HKc.out | with_reducible exact HKb.out | with_reducible exact HKa.out | with_reducible exact HK0.out)
                (first
                | (refine step_append_lies _ rfl (.tmp 54) (.tmp 74) 22 rfl (w.heap.size + 2) 42 iR (.agg zeroR) 2 24 Tryd.underlying22 hiR.out hzR hsR hbR rfl (by decide) ov k (rawC L0) (by first | (simp [Act.eval]; done) | simp [Act.eval, Act.put]) ((HGc.out.at HLk.out).alloc _) ⟨wc.heap.size, 0, none⟩ 1 1 [.int .i64 (2 + (nx : Int)), .string (((((⟨#[72, 32]⟩ ++ d1) ++ ⟨#[32]⟩) ++ d2) ++ ⟨#[32]⟩) ++ d3)] (by first | (simp [Act.eval]; done) | simp [Act.eval, Act.put]) (by simp) (cell_two_at rfl) (by simp [Value.oneCell']) (by decide) (by unfold maxLen; omega) (by omega) (by have := HGc.out.bx.size; simp; omega) _ rfl ?_
                   intro g6 c6 w6 hown hgrow hat hgl
                   have HE := hide (HPut.out _ _ _ _ _ _ HGc.out hgrow hown)
                   have HK6 := hide (HKf.out _ _ _ HE.out)
                   clear hown hgrow hat hgl)
                | (go_at_call 30; refine (HD3.out wb).mono ?_; rintro e9 wc ⟨rfl, hB9⟩; have HGc := hide (HGb2.out.next hB9); have HKc := hide (HKf.out _ _ _ HGc.out); have HKl := hide (fun o => HKf.out (wc.alloc o) _ _ (HGc.out.next ((Below.refl _ _).alloc (Nat.le_refl _) o))); clear hB9)
                | (go_at_call 30; refine (HD2.out wa).mono ?_; rintro e8 wb ⟨rfl, hB8⟩; have HGb2 := hide (HGa.out.next hB8); have HKb := hide (HKf.out _ _ _ HGb2.out); clear hB8)
                | (go_at_call 30; refine (HD1.out w3.drew).mono ?_; rintro e7 wa ⟨rfl, hB7⟩; have HGa := hide (HG.out.drew.next hB7); have HKa := hide (HKf.out _ _ _ HGa.out); clear hB7))
              all_goals
                go_wp2_with fail
                go_meet
                refine ⟨_, rfl, ?_⟩
                show GwL _ _ _ _ _ _ _ _ _ _
                rw [← HL1.out, HPh.out]
                exact HE.out
            case rest =>
              rename World => wm
              obtain ⟨ov', rfl, HGm⟩ := hcut
              clear x0 x1 x2 x3 HG
              have x0 := HGm.out.bx.box.cell 0 _ rfl
              have x1 := HGm.out.bx.box.cell 1 _ rfl
              have x2 := HGm.out.bx.box.cell 2 _ rfl
              have x3 := HGm.out.bx.box.cell 3 _ rfl
              obtain ⟨iS, hiS', hzS, hsS, hbS⟩ := info_S
              have hiS := hide hiS'
              clear hiS'
              have HNext : Hid (∀ (w5 : World) a5 c5, Below wm.heap.size wm w5 → StrRow w5 wm.heap.size (.slice a5 groups.length c5) groups → ∀ o1 o2 w7 v7, ((w5.alloc (.cells #[.int .i64 (gn : Int), .string text, .slice a5 groups.length c5, .int .i64 (nx : Int)] 32)).alloc o2).grownBy w7 (Value.slice a5 groups.length c5).ownBlock → w7.ownsRow wm.heap.size 9 1 v7 (groups.length + 1) (groups.map .string ++ [.string t]) → (v7.ownBlock = (Value.slice a5 groups.length c5).ownBlock ∨ v7.ownBlock = some o1) → o1 = w5.heap.size + 1 + 1 → Tl w a groups.length cap gn text nx ov' L1 w5.heap.size wm.heap.size #[.int .i64 (gn : Int), .string text, .slice a5 groups.length c5, .int .i64 (nx : Int)] v7 (groups ++ [t]) w7) := fun w5 a5 c5 hB hR o1 o2 w7 v7 hg ho hat hz => by
                have h5 := HGm.out.next hB
                have hs := hB.size
                have hz2 := HGm.out.bx.size
                have hown : ∀ k, (Value.slice a5 groups.length c5).ownBlock = some k → wm.heap.size ≤ k ∧ k < w5.heap.size := fun k hk => ⟨row_base hR k hk, hR.lt k hk⟩
                have hlt := HGm.out.row.lt
                have b6 : Below w5.heap.size w5 ((w5.alloc (.cells #[.int .i64 (gn : Int), .string text, .slice a5 groups.length c5, .int .i64 (nx : Int)] 32)).alloc o2) := ((Below.refl _ _).alloc (Nat.le_refl _) _).alloc (by simp) _
                have h6 := h5.next b6
                refine ⟨⟨h6.bx.box.grown hg (fun e => by have := hown _ e.symm; omega), h6.bx.res.grown hg (fun e => by have := hown _ e.symm; omega), h6.bx.below.grown hg h6.bx.below.size (fun k hk => by have := hown _ hk; omega), Nat.le_trans h6.bx.size hg.size⟩,
                  ownsRow_same h6.row (fun g hgk => hg.block g (by have := hlt g hgk; have := b6.size; omega) (fun e => by have := hown _ e.symm; have := hlt g hgk; omega)),
                  ((Blk.new w5 _ _).alloc _).grown hg (fun e => by have := hown _ e.symm; omega), StrRow.snoc rfl ho, hlt, fun k hk => ?_, by omega⟩
                rcases hat with h | h
                · rw [hk] at h; have := hown _ h.symm; omega
                · rw [hk] at h; have := Option.some.inj h; omega
              have HNe : Hid (∀ W : World, wm.heap.size ≤ W.heap.size → wm.heap.size ≤ ((W.alloc (.cells #[] 0)).alloc (.cells #[] 0)).heap.size) := fun W h => by simp; omega
              go_wp2_with (first
                | (go_at_call 27; refine (HCpT.out _ HGm.out.bx.below).mono ?_; rintro e5 w5 ⟨a5, c5, rfl, hR5, hB5⟩; have HR5 := hide hR5; have HB5 := hide hB5; have HTl := hide (HNext.out w5 a5 c5 hB5 hR5); have HRow5 := hide (fun o1 o2 => ((hR5.alloc o1).alloc o2)); have hz5 : wm.heap.size ≤ w5.heap.size := hB5.size; clear hR5 hB5)
                | (at_builtin; refine wpList_append_own_at _ rfl _ _ 28 rfl wm.heap.size 9 iS (.string ⟨#[]⟩) 1 16 Tryd.underlying28 hiS.out hzS hsS hbS rfl (by decide) (.slice a5 groups.length c5) groups.length (groups.map .string) rfl (HRow5.out _ _) ⟨_, 0, none⟩ 1 1 [.string t] rfl (by simp) (cell_one_n (by simp) rfl) (by simp [Value.oneCell']) (by unfold maxLen; omega) (by omega) (by simp; omega) ?_; intro v' w7 hown hgrow hnil hat; have HT7 := hide (HTl.out _ _ w7 v' hgrow hown hat (by simp)); obtain ⟨a7, c7, hv7⟩ := ownsRow_form hown; subst hv7; have y0 := HT7.out.box.cell 0 _ rfl; have y1 := HT7.out.box.cell 1 _ rfl; have y2 := HT7.out.box.cell 2 _ rfl; have y3 := HT7.out.box.cell 3 _ rfl; have f2 := HT7.out.box.frozen 2; have f3 := HT7.out.box.frozen 3; have z3 := HT7.out.bx.box.cell 3 _ rfl; clear hown hgrow hat hnil))
              generalize hW8 : w7.setCell ⟨w5.heap.size, 2, none⟩ (.slice a7 (groups.length + 1) c7) = W8
              have HT8 : Hid (Tl w a groups.length cap gn text nx ov' L1 w5.heap.size wm.heap.size #[.int .i64 (gn : Int), .string text, .slice a7 (groups.length + 1) c7, .int .i64 (nx : Int)] (.slice a7 (groups.length + 1) c7) (groups ++ [t]) W8) := by
                subst hW8
                exact HT7.out.set 2 _
              clear hW8 y0 y1 y2 y3 f2 f3 z3 x0 x1 x2 x3 HT7 HTl HRow5 HNext
              have z3 := HT8.out.bx.box.cell 3 _ rfl
              have y3 := HT8.out.box.cell 3 _ rfl
              have f3 := HT8.out.box.frozen 3
              generalize hg2 : groups ++ [t] = G at *
              have HG2 := hide hg2
              clear hg2
              have hwq2 : IntKind.i64.wrap ((nx : Int) + (q : Int)) = (nx : Int) + (q : Int) := by rw [IntKind.wrap_i64]; omega
              go_cut [8] from 84 to 89 (fun x wx => x = ov' ∧ Hid (Tl w a groups.length cap gn text nx ov' L1 w5.heap.size wm.heap.size #[.int .i64 (gn : Int), .string text, .slice a7 (groups.length + 1) c7, .int .i64 ((nx : Int) + q)] (.slice a7 (groups.length + 1) c7) G wx))
              case first =>
                go_region_with (go_at_call 28; refine (HGb.out _).mono ?_; rintro e9 w9 ⟨rfl, rfl⟩)
                all_goals
                  go_wp2_with fail
                  go_meet
                  refine ⟨rfl, ?_⟩
                  show Tl _ _ _ _ _ _ _ _ _ _ _ _ _ _ _
                  first | exact (HT8.out.set 3 _).drew | exact (HT8.out.drew.set 3 _)
              case rest =>
                rename World => w9
                obtain ⟨rfl, HT9⟩ := hcut
                clear z3 y3 f3 HT8
                have u0 := HT9.out.box.cell 0 _ rfl
                have u1 := HT9.out.box.cell 1 _ rfl
                have u2 := HT9.out.box.cell 2 _ rfl
                have u3 := HT9.out.box.cell 3 _ rfl
                have y0 := HT9.out.bx.res.cell 0 _ rfl
                have y1 := HT9.out.bx.res.cell 1 _ rfl
                have y2 := HT9.out.bx.res.cell 2 _ rfl
                have y3 := HT9.out.bx.res.cell 3 _ rfl
                have g0 := HT9.out.bx.res.frozen 0
                have g1 := HT9.out.bx.res.frozen 1
                have g2 := HT9.out.bx.res.frozen 2
                have g3 := HT9.out.bx.res.frozen 3
                have HLen : Hid (G.length = groups.length + 1) := by show _ = _; rw [← HG2.out]; simp
                go_wp2_with fail
                go_region
                all_goals
                  go_wp2_with fail
                  rw [HG2.out, HGV.out]
                  refine bodyPost_ret (v := .tuple #[u8, .agg #[.int .i64 (gn : Int), .string text, .slice a7 (groups.length + 1) c7, .int .i64 ((nx : Int) + q)], .int .i64 0]) (by simp [results, Tryd.results12, go_sem, y0, y1, y2, y3]) rfl ?_
                  have ho := HT9.out.ord
                  exact (out_set (V := (L1, ⟨gn, text, G, (nx : Int) + q⟩, 0)) _ _ _ _ HT9.out.bx.below HT9.out.bx.size HT9.out.row (HT9.out.str.base ho.1) (fun k h h2 => by
                    have h4 := row_base HT9.out.str k h2
                    have h5 := HT9.out.lt k h
                    omega) rfl).drew
      · have hr : V = ([], ⟨gen, text, groups, next⟩, 4) := by rw [HV3.out, if_neg hfit]
        subst hr
        clear HV3 HGb HGN
        go_wp2_with (go_at_call 27; refine (HCpT.out _ HX2.out.below).mono ?_; rintro e3 w3 ⟨a2, c2, rfl, hR3, hB3⟩; have HX3 := hide (HX2.out.next hB3); have HR3 := hide (hR3.base HX2.out.size); have y0 := HX3.out.res.cell 0 _ rfl; have y1 := HX3.out.res.cell 1 _ rfl; have y2 := HX3.out.res.cell 2 _ rfl; have y3 := HX3.out.res.cell 3 _ rfl; have g0 := HX3.out.res.frozen 0; have g1 := HX3.out.res.frozen 1; have g2 := HX3.out.res.frozen 2; have g3 := HX3.out.res.frozen 3; have HRb := hide (fun k (h : (Value.slice a2 groups.length c2).ownBlock = some k) => row_base hR3 k h); clear hR3 hB3)
        refine bodyPost_ret (v := .tuple #[.slice (some ⟨w.heap.size + 1 + 1, 0, none⟩) 0 0, .agg #[.int .i64 gen, .string text, .slice a2 groups.length c2, .int .i64 next], .int .i64 4]) (by simp [results, Tryd.results12, go_sem, y0, y1, y2, y3]) rfl ?_
        refine out_set (V := ([], ⟨gen, text, groups, next⟩, 4)) _ _ _ _ HX3.out.below HX3.out.size HX3.out.row HR3.out (fun k h h2 => ?_) rfl
        have h4 := HRb.out k h2
        have h5 := HX2.out.row.lt k h
        omega
    · have hr : V = ([], ⟨gen, text, groups, next⟩, 6) := by rw [HV2.out, if_neg htt]
      subst hr
      clear HV2
      go_wp2_with (go_at_call 27; refine (HCpT.out _ HX1.out.below).mono ?_; rintro e3 w3 ⟨a2, c2, rfl, hR3, hB3⟩; have HX3 := hide (HX1.out.next hB3); have HR3 := hide (hR3.base HX1.out.size); have y0 := HX3.out.res.cell 0 _ rfl; have y1 := HX3.out.res.cell 1 _ rfl; have y2 := HX3.out.res.cell 2 _ rfl; have y3 := HX3.out.res.cell 3 _ rfl; have g0 := HX3.out.res.frozen 0; have g1 := HX3.out.res.frozen 1; have g2 := HX3.out.res.frozen 2; have g3 := HX3.out.res.frozen 3; have HRb := hide (fun k (h : (Value.slice a2 groups.length c2).ownBlock = some k) => row_base hR3 k h); clear hR3 hB3)
      refine bodyPost_ret (v := .tuple #[.slice (some ⟨w.heap.size + 1 + 1, 0, none⟩) 0 0, .agg #[.int .i64 gen, .string text, .slice a2 groups.length c2, .int .i64 next], .int .i64 6]) (by simp [results, Tryd.results12, go_sem, y0, y1, y2, y3]) rfl ?_
      refine out_set (V := ([], ⟨gen, text, groups, next⟩, 6)) _ _ _ _ HX3.out.below HX3.out.size HX3.out.row HR3.out (fun k h h2 => ?_) rfl
      have h4 := HRb.out k h2
      have h5 := HX1.out.row.lt k h
      omega

end Go.Proofs.YtofgadldopaniaaDoor
