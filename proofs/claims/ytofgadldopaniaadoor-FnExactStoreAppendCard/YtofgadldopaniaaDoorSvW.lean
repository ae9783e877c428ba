/- StoreSave, by the specification. -/
import Derived.Test.YtofgadldopaniaaDoorSvK
import Derived.Test.YtofgadldopaniaaDoorSvT
import Derived.Deep.RegionLaw
namespace Go.Proofs.YtofgadldopaniaaDoor
open Go.RowKit

def zeroS : St := ⟨0, ⟨#[]⟩, [], 0⟩
/-- What is written for a checkpoint with a text, the store then, and the code. -/
def saveV (s : St) (t : ByteArray) : List Rw × St × Int :=
  if okS s = true then
    if t.size ≤ 5760 then
      if s.gen = 99999 then ([], s, 5) else (savedV (s.gen + 1).toNat t, ⟨s.gen + 1, t, [], 0⟩, 0)
    else ([], s, 4)
  else ([], zeroS, 1)
/-- What is handed back: writes, a store, a code. -/
structure Out (w : World) (V : List Rw × St × Int) (e : Ending) (w' : World) : Prop where
  below : Below w.heap.size w w'
  size : w.heap.size + 2 ≤ w'.heap.size
  out : ∃ v gv, e = .returned (.tuple #[v, stV V.2.1 gv, .int .i64 V.2.2]) ∧ RwRow w' (w.heap.size + 2) v V.1 ∧ StrRow w' (w.heap.size + 2) gv V.2.1.groups ∧ ∀ k, v.ownBlock = some k → gv.ownBlock ≠ some k
theorem RwRow.other {W : World} {lo : Nat} {v : Value} {l : List Rw} (h : RwRow W lo v l) (p : Addr) (u : Value) (hp : p.block < lo) : RwRow (W.setCell p u) lo v l :=
  ownsRow_same h fun g hg => Below.heap_setCell _ _ _ _ (by have := row_base h g hg; omega)
theorem RwRow.lt {W : World} {lo : Nat} {v : Value} {l : List Rw} (h : RwRow W lo v l) : ∀ k, v.ownBlock = some k → k < W.heap.size := fun k hk => by
  rcases h.2 with ⟨rfl, _⟩ | ⟨g, cap, cur, rfl, _, h3, _⟩
  · simp [Value.ownBlock] at hk
  · simp [Value.ownBlock] at hk; subst hk; exact (Array.getElem?_eq_some_iff.1 h3).1
theorem StrRow.lt {W : World} {lo : Nat} {v : Value} {l : List ByteArray} (h : StrRow W lo v l) : ∀ k, v.ownBlock = some k → k < W.heap.size := fun k hk => by
  rcases h.2 with ⟨rfl, _⟩ | ⟨g, cap, cur, rfl, _, h3, _⟩
  · simp [Value.ownBlock] at hk
  · simp [Value.ownBlock] at hk; subst hk; exact (Array.getElem?_eq_some_iff.1 h3).1
theorem StrRow.nil (W : World) (lo : Nat) : StrRow W lo (.slice none 0 0) [] := World.ownsRow_nil _ _ _ _

/-- The cells of a result's box behind the stores. -/
abbrev set4 (w : World) (b : Nat) (v0 v1 v2 v3 : Value) : World := (((w.setCell ⟨b, 0, none⟩ v0).setCell ⟨b, 1, none⟩ v1).setCell ⟨b, 2, none⟩ v2).setCell ⟨b, 3, none⟩ v3
theorem out_set {w W : World} {V : List Rw × St × Int} {v gv : Value} {B : Nat} (u0 u1 u2 u3 : Value) (hb : Below w.heap.size w W) (hz : w.heap.size + 2 ≤ W.heap.size) (h1 : RwRow W (w.heap.size + 2) v V.1) (h2 : StrRow W (w.heap.size + 2) gv V.2.1.groups) (h3 : ∀ k, v.ownBlock = some k → gv.ownBlock ≠ some k) (hB : B = w.heap.size + 1) :
    Out w V (.returned (.tuple #[v, stV V.2.1 gv, .int .i64 V.2.2])) (set4 W B u0 u1 u2 u3) := by
  subst hB
  refine ⟨?_, by simp [World.setCell]; omega, v, gv, rfl, ?_, ?_, h3⟩
  · repeat (refine Below.setCell ?_ (by show _ ≤ _; simp) _)
    exact hb
  · repeat (refine RwRow.other ?_ _ _ (by show _ < _; simp))
    exact h1
  · repeat (refine StrRow.other ?_ _ _ (by show _ < _; simp))
    exact h2

/-- The boxes of a function that takes a store and hands one back. -/
structure SvBx (w : World) (a : Option Addr) (n cap : Nat) (gen : Int) (text : ByteArray) (next : Int) (W : World) : Prop where
  box : Blk W w.heap.size #[.int .i64 gen, .string text, .slice a n cap, .int .i64 next] 32
  res : Blk W (w.heap.size + 1) #[.int .i64 0, .string ⟨#[]⟩, .slice none 0 0, .int .i64 0] 32
  row : RwRow W (w.heap.size + 2) (.slice (some ⟨w.heap.size + 1 + 1, 0, none⟩) 0 0) []
  below : Below w.heap.size w W
  size : w.heap.size + 2 ≤ W.heap.size
theorem SvBx.next {w : World} {a : Option Addr} {n cap : Nat} {gen : Int} {text : ByteArray} {next : Int} {W W' : World} (h : SvBx w a n cap gen text next W) (hb : Below W.heap.size W W') : SvBx w a n cap gen text next W' :=
  ⟨h.box.below hb h.box.lt, h.res.below hb h.res.lt, h.row.keep hb, h.below.trans (hb.mono h.below.size), Nat.le_trans h.size hb.size⟩

set_option maxHeartbeats 4000000 in
set_option maxRecDepth 100000 in
theorem specStoreSave_any (s : St) (gv : Value) (t : ByteArray) (w : World) (lo hi : Nat) (hv : StrsAt w lo hi gv s.groups) (hhi : hi ≤ w.heap.size) (hl : s.groups.length ≤ 1048576) (ht : s.text.size ≤ 1048576) (ht2 : t.size ≤ 1048576) :
    Calls Tryd.prog 18 #[stV s gv, .string t] w fun e w' => Out w (saveV s t) e w' := by
  have HOk := hide (fun W (h : Below w.heap.size w W) => l22Ok_any s gv W lo hi (hv.keep h hhi) (Nat.le_trans hhi h.size) hl ht)
  have HCp := hide (fun W (h : Below w.heap.size w W) => l22Copy_row s gv W lo hi (hv.keep h hhi) (Nat.le_trans hhi h.size) hl)
  have HT := hide (fun W => l22TextOk_any t W ht2)
  obtain ⟨a, cap, rfl, _⟩ := id hv
  have HV : Hid (saveV s t = if okS s = true then if t.size ≤ 5760 then if s.gen = 99999 then ([], s, 5) else (savedV (s.gen + 1).toNat t, ⟨s.gen + 1, t, [], 0⟩, 0) else ([], s, 4) else ([], zeroS, 1)) := rfl
  have HS := hide (okS_out s)
  obtain ⟨gen, text, groups, next⟩ := s
  have HA : Hid (∀ o1 o2 o3, Below w.heap.size w (((w.alloc o1).alloc o2).alloc o3) ∧ w.heap.size + 2 ≤ (((w.alloc o1).alloc o2).alloc o3).heap.size) := fun o1 o2 o3 => ⟨(((Below.refl _ _).alloc (Nat.le_refl _) o1).alloc (by simp) o2).alloc (by simp; omega) o3, by simp⟩
  show Calls Tryd.prog 18 #[.agg #[.int .i64 gen, .string text, .slice a groups.length cap, .int .i64 next], .string t] w _
  generalize hVV : saveV ⟨gen, text, groups, next⟩ t = V at *
  clear hVV
  have hPre : ∀ W, W = ((w.alloc (.cells #[.int .i64 gen, .string text, .slice a groups.length cap, .int .i64 next] 32)).alloc (.cells #[.int .i64 0, .string ⟨#[]⟩, .slice none 0 0, .int .i64 0] 32)).alloc (.cells #[] 42) → Below w.heap.size w W ∧ SvBx w a groups.length cap gen text next W := fun W hW => by
    subst hW
    exact ⟨(HA.out _ _ _).1, ((Blk.new _ _ _).alloc _).alloc _, (Blk.atn (by simp)).alloc _, RwRow.none (Blk.atn (by simp) : Blk _ (w.heap.size + 1 + 1) _ _) (by omega), (HA.out _ _ _).1, by simp⟩
  have HPre := hide hPre
  clear hPre HA hv
  cases hok : okS ⟨gen, text, groups, next⟩ with
  | false =>
    rw [hok] at HOk
    have hr : V = ([], zeroS, 1) := by rw [HV.out, hok]; rfl
    subst hr
    clear HV HCp HT HS
    go_enter Tryd.func18, Tryd.ntmps18
    go_wp2_with fail
    generalize hW : ((w.alloc (Obj.cells #[.int .i64 gen, .string text, .slice a groups.length cap, .int .i64 next] 32)).alloc (Obj.cells #[.int .i64 0, .string ⟨#[]⟩, .slice none 0 0, .int .i64 0] 32)).alloc (Obj.cells #[] 42) = W
    obtain ⟨hBW, hX⟩ := HPre.out W hW.symm
    clear hW HPre
    refine (HOk.out W hBW).mono ?_
    rintro e w1 ⟨rfl, hB1⟩
    have hX1 := hX.next hB1
    have HX1 := hide hX1
    have y0 := hX1.res.cell 0 _ rfl
    have y1 := hX1.res.cell 1 _ rfl
    have y2 := hX1.res.cell 2 _ rfl
    have y3 := hX1.res.cell 3 _ rfl
    have g0 := hX1.res.frozen 0
    have g1 := hX1.res.frozen 1
    have g2 := hX1.res.frozen 2
    have g3 := hX1.res.frozen 3
    clear hX1 hX hB1 hBW HOk
    go_wp2_with fail
    refine bodyPost_ret (v := .tuple #[.slice (some ⟨w.heap.size + 1 + 1, 0, none⟩) 0 0, .agg #[.int .i64 0, .string ⟨#[]⟩, .slice none 0 0, .int .i64 0], .int .i64 1]) (by simp [results, Tryd.results18, go_sem, y0, y1, y2, y3]) rfl ?_
    exact out_set (V := ([], zeroS, 1)) _ _ _ _ HX1.out.below HX1.out.size HX1.out.row (StrRow.nil _ _) (fun k _ h => by simp [Value.ownBlock] at h) rfl
  | true =>
    rw [hok] at HOk
    obtain ⟨hg1, hg2, _, _, _⟩ := (HS.out hok).1
    have hg1 : 1 ≤ gen := hg1
    have hg2 : gen ≤ 99999 := hg2
    have HV2 : Hid (V = if t.size ≤ 5760 then if gen = 99999 then ([], ⟨gen, text, groups, next⟩, 5) else (savedV (gen + 1).toNat t, ⟨gen + 1, t, [], 0⟩, 0) else ([], ⟨gen, text, groups, next⟩, 4)) := by show _ = _; rw [HV.out, hok]; rfl
    clear HV HS hok
    have HCpT : Hid (∀ W, Below w.heap.size w W → Calls Tryd.prog 27 #[.agg #[.int .i64 gen, .string text, .slice a groups.length cap, .int .i64 next]] W fun e w' => ∃ a2 c2, e = .returned (.agg #[.int .i64 gen, .string text, .slice a2 groups.length c2, .int .i64 next]) ∧ StrRow w' W.heap.size (.slice a2 groups.length c2) groups ∧ Below W.heap.size W w') := fun W hW =>
      (HCp.out W hW).mono fun e w' ⟨v', h1, h2, h3⟩ => by
        obtain ⟨a2, c2, rfl⟩ := ownsRow_form h2
        exact ⟨a2, c2, h1, h2, h3⟩
    clear HCp
    go_enter Tryd.func18, Tryd.ntmps18
    go_wp2_with fail
    generalize hW : ((w.alloc (Obj.cells #[.int .i64 gen, .string text, .slice a groups.length cap, .int .i64 next] 32)).alloc (Obj.cells #[.int .i64 0, .string ⟨#[]⟩, .slice none 0 0, .int .i64 0] 32)).alloc (Obj.cells #[] 42) = W
    obtain ⟨hBW, hX⟩ := HPre.out W hW.symm
    clear hW HPre
    refine (HOk.out W hBW).mono ?_
    rintro e w1 ⟨rfl, hB1⟩
    have HX1 := hide (hX.next hB1)
    have x0 := HX1.out.box.cell 0 _ rfl
    have x1 := HX1.out.box.cell 1 _ rfl
    have x2 := HX1.out.box.cell 2 _ rfl
    have x3 := HX1.out.box.cell 3 _ rfl
    clear hX hB1 hBW HOk
    by_cases htt : t.size ≤ 5760
    · rw [decide_eq_true htt] at HT
      have HV3 : Hid (V = if gen = 99999 then ([], ⟨gen, text, groups, next⟩, 5) else (savedV (gen + 1).toNat t, ⟨gen + 1, t, [], 0⟩, 0)) := by show _ = _; rw [HV2.out, if_pos htt]
      clear HV2 htt
      by_cases hge : gen = 99999
      · have hr : V = ([], ⟨gen, text, groups, next⟩, 5) := by rw [HV3.out, if_pos hge]
        subst hr
        clear HV3
        subst hge
        go_wp2_with (first
          | (go_at_call 20; refine (HT.out _).mono ?_; rintro e2 w2 ⟨rfl, rfl⟩)
          | (go_at_call 27; refine (HCpT.out _ HX1.out.below).mono ?_; rintro e3 w3 ⟨a2, c2, rfl, hR3, hB3⟩; have HX3 := hide (HX1.out.next hB3); have HR3 := hide (hR3.base HX1.out.size); have y0 := HX3.out.res.cell 0 _ rfl; have y1 := HX3.out.res.cell 1 _ rfl; have y2 := HX3.out.res.cell 2 _ rfl; have y3 := HX3.out.res.cell 3 _ rfl; have g0 := HX3.out.res.frozen 0; have g1 := HX3.out.res.frozen 1; have g2 := HX3.out.res.frozen 2; have g3 := HX3.out.res.frozen 3; have HRb := hide (fun k (h : (Value.slice a2 groups.length c2).ownBlock = some k) => row_base hR3 k h); clear hR3 hB3))
        refine bodyPost_ret (v := .tuple #[.slice (some ⟨w.heap.size + 1 + 1, 0, none⟩) 0 0, .agg #[.int .i64 99999, .string text, .slice a2 groups.length c2, .int .i64 next], .int .i64 5]) (by simp [results, Tryd.results18, go_sem, y0, y1, y2, y3]) rfl ?_
        refine out_set (V := ([], ⟨99999, text, groups, next⟩, 5)) _ _ _ _ HX3.out.below HX3.out.size HX3.out.row HR3.out (fun k h h2 => ?_) rfl
        have h4 := HRb.out k h2
        have h5 := HX1.out.row.lt k h
        omega
      · have hr : V = (savedV (gen + 1).toNat t, ⟨gen + 1, t, [], 0⟩, 0) := by rw [HV3.out, if_neg hge]
        subst hr
        clear HV3 HCpT
        have hlt : gen < 99999 := by omega
        clear hge
        have HSv : Hid (∀ W, Calls Tryd.prog 21 #[.int .i64 (gen + 1), .string t] W fun e w' => ∃ v, e = .returned v ∧ RwRow w' W.heap.size v (savedV (gen + 1).toNat t) ∧ Below W.heap.size W w') := fun W => by
          have := l22Saved_any (gen + 1).toNat t W (by omega) ht2
          have e : (((gen + 1).toNat : Nat) : Int) = gen + 1 := by omega
          rwa [e] at this
        have hw1 : IntKind.i64.wrap (gen + 1) = gen + 1 := by rw [IntKind.wrap_i64]; omega
        go_wp2_with (go_at_call 20; refine (HT.out _).mono ?_; rintro e2 w2 ⟨rfl, rfl⟩)
        clear HT
        go_region_with (go_at_call 21; refine (HSv.out _).mono ?_; rintro e3 w3 ⟨v3, rfl, hR3, hB3⟩; have HX3 := hide (HX1.out.next (undrewB hB3)); have HR3 := hide (RwRow.base hR3 HX1.out.size); have x0 := HX3.out.box.cell 0 _ rfl; have y0 := HX3.out.res.cell 0 _ rfl; have y1 := HX3.out.res.cell 1 _ rfl; have y2 := HX3.out.res.cell 2 _ rfl; have y3 := HX3.out.res.cell 3 _ rfl; have g0 := HX3.out.res.frozen 0; have g1 := HX3.out.res.frozen 1; have g2 := HX3.out.res.frozen 2; have g3 := HX3.out.res.frozen 3; clear hR3 hB3)
        all_goals
          go_wp2_with fail
          refine bodyPost_ret (v := .tuple #[v3, .agg #[.int .i64 (gen + 1), .string t, .slice none 0 0, .int .i64 0], .int .i64 0]) (by simp [results, Tryd.results18, go_sem, y0, y1, y2, y3]) rfl ?_
          exact out_set (V := (savedV (gen + 1).toNat t, ⟨gen + 1, t, [], 0⟩, 0)) _ _ _ _ HX3.out.below HX3.out.size HR3.out (StrRow.nil _ _) (fun k _ h => by simp [Value.ownBlock] at h) rfl
    · rw [decide_eq_false htt] at HT
      have hr : V = ([], ⟨gen, text, groups, next⟩, 4) := by rw [HV2.out, if_neg htt]
      subst hr
      clear HV2 htt
      go_wp2_with (first
        | (go_at_call 20; refine (HT.out _).mono ?_; rintro e2 w2 ⟨rfl, rfl⟩)
        | (go_at_call 27; refine (HCpT.out _ HX1.out.below).mono ?_; rintro e3 w3 ⟨a2, c2, rfl, hR3, hB3⟩; have HX3 := hide (HX1.out.next hB3); have HR3 := hide (hR3.base HX1.out.size); have y0 := HX3.out.res.cell 0 _ rfl; have y1 := HX3.out.res.cell 1 _ rfl; have y2 := HX3.out.res.cell 2 _ rfl; have y3 := HX3.out.res.cell 3 _ rfl; have g0 := HX3.out.res.frozen 0; have g1 := HX3.out.res.frozen 1; have g2 := HX3.out.res.frozen 2; have g3 := HX3.out.res.frozen 3; have HRb := hide (fun k (h : (Value.slice a2 groups.length c2).ownBlock = some k) => row_base hR3 k h); clear hR3 hB3))
      refine bodyPost_ret (v := .tuple #[.slice (some ⟨w.heap.size + 1 + 1, 0, none⟩) 0 0, .agg #[.int .i64 gen, .string text, .slice a2 groups.length c2, .int .i64 next], .int .i64 4]) (by simp [results, Tryd.results18, go_sem, y0, y1, y2, y3]) rfl ?_
      refine out_set (V := ([], ⟨gen, text, groups, next⟩, 4)) _ _ _ _ HX3.out.below HX3.out.size HX3.out.row HR3.out (fun k h h2 => ?_) rfl
      have h4 := HRb.out k h2
      have h5 := HX1.out.row.lt k h
      omega

end Go.Proofs.YtofgadldopaniaaDoor
