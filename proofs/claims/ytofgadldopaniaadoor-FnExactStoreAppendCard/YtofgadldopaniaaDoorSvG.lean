/- Stores in memory: their copies, how many blocks a group has. -/
import Derived.Test.YtofgadldopaniaaDoorSvS
import Derived.Test.YtofgadldopaniaaDoorSvPg
import Derived.Test.YtofgadldopaniaaDoorOwnR
namespace Go.Proofs.YtofgadldopaniaaDoor
open Go.RowKit

structure St where
  gen : Int
  text : ByteArray
  groups : List ByteArray
  next : Int
abbrev stV (s : St) (gv : Value) : Value := .agg #[.int .i64 s.gen, .string s.text, gv, .int .i64 s.next]
/-- A row of strings that came by append. -/
def StrRow (W : World) (lo : Nat) (v : Value) (l : List ByteArray) : Prop := W.ownsRow lo 9 1 v l.length (l.map .string)
theorem StrRow.keep {W W' : World} {lo : Nat} {v : Value} {l : List ByteArray} (h : StrRow W lo v l) (hb : Below W.heap.size W W') : StrRow W' lo v l := by
  refine ownsRow_same h fun g hg => hb.block g ?_
  rcases h.2 with ⟨e1, _⟩ | ⟨g', cap, cur, e1, _, e3, _⟩
  · rw [e1] at hg; simp [Value.ownBlock] at hg
  · rw [e1] at hg; simp [Value.ownBlock] at hg; subst hg; exact (Array.getElem?_eq_some_iff.1 e3).1
theorem StrRow.other {W : World} {lo : Nat} {v : Value} {l : List ByteArray} (h : StrRow W lo v l) (p : Addr) (u : Value) (hp : p.block < lo) : StrRow (W.setCell p u) lo v l :=
  ownsRow_same h fun g hg => Below.heap_setCell _ _ _ _ (by have := row_base h g hg; omega)
theorem StrRow.own {W : World} {lo : Nat} {v : Value} {l : List ByteArray} (h : StrRow W lo v l) (hl : l.length ≤ maxLen) (hs : ∀ (i : Nat) (h : i < l.length), l[i].size ≤ maxLen) : ∃ a c b, v = .slice a l.length c ∧ OwnStrs W lo W.heap.size b (.slice a l.length c) l := by
  obtain ⟨a, c, rfl⟩ := ownsRow_form h
  refine ⟨a, c, ((Value.slice a l.length c).ownBlock).getD 0, rfl, ?_⟩
  refine ownStrs_of_row h hl hs _ ?_
  cases a with
  | none =>
    rcases h.2 with ⟨_, e2⟩ | ⟨g, cap, cur, e1, _⟩
    · exact .inr (List.eq_nil_of_length_eq_zero e2)
    · simp at e1
  | some ad => exact .inl rfl
theorem StrRow.base {W : World} {lo lo' : Nat} {v : Value} {l : List ByteArray} (h : StrRow W lo v l) (hl : lo' ≤ lo) : StrRow W lo' v l := by
  unfold StrRow World.ownsRow at h ⊢
  refine ⟨h.1, ?_⟩
  rcases h.2 with h | ⟨g, cap, cur, q1, q2, q3⟩
  · exact .inl h
  · exact .inr ⟨g, cap, cur, q1, by omega, q3⟩

/-- What is appended out of a list of strings that lies somewhere: none, or its cells. -/
theorem news_strs {w : World} {lo hi : Nat} {a : Option Addr} {cap : Nat} {l : List ByteArray} (hv : StrsAt w lo hi (.slice a l.length cap) l) (hhi : hi ≤ w.heap.size) :
    (a = none ∧ l = []) ∨ ∃ ad, a = some ad ∧ ∀ W, Below w.heap.size w W → ∀ j u, (l.map Value.string)[j]? = some u → W.cell? (ad.add j) = some u := by
  obtain ⟨a', cap', he, _, _, hc⟩ := hv
  simp only [Value.slice.injEq, true_and] at he
  obtain ⟨rfl, rfl⟩ := he
  by_cases h0 : 0 < l.length
  · obtain ⟨b, o, rfl, h1, h2, hcell⟩ := hc h0
    refine .inr ⟨_, rfl, fun W hW j u hu => ?_⟩
    rw [List.getElem?_map] at hu
    by_cases hj : j < l.length
    · rw [List.getElem?_eq_getElem hj] at hu
      have e : Addr.add ⟨b, o, none⟩ j = ⟨b, o + j, none⟩ := by unfold Addr.add; split <;> simp_all
      rw [e, hW.cell (p := ⟨b, o + j, none⟩) (by show b < w.heap.size; omega), hcell j hj]
      exact hu
    · rw [List.getElem?_eq_none (by omega)] at hu; cases hu
  · have hl0 : l = [] := List.eq_nil_of_length_eq_zero (by omega)
    subst hl0
    cases a with
    | none => exact .inl ⟨rfl, rfl⟩
    | some ad => exact .inr ⟨ad, rfl, fun W hW j u hu => by simp at hu⟩

set_option maxHeartbeats 1000000 in
theorem copyNames_row (l : List ByteArray) (v : Value) (w : World) (lo hi : Nat) (hv : StrsAt w lo hi v l) (hhi : hi ≤ w.heap.size) (hl : l.length ≤ 1048576) :
    Calls Tryd.prog 48 #[v] w fun e w' => ∃ v', e = .returned v' ∧ StrRow w' w.heap.size v' l ∧ Below w.heap.size w w' := by
  obtain ⟨a, cap, rfl, _⟩ := id hv
  obtain ⟨iS, hiS', hzS, hsS, hbS⟩ := info_S
  have hiS := hide hiS'
  clear hiS'
  rcases news_strs hv hhi with ⟨rfl, rfl⟩ | ⟨ad, rfl, hc⟩
  · clear hv
    go_enter Tryd.func48, Tryd.ntmps48
    go_wp2
    go_ret
    exact ⟨_, rfl, World.ownsRow_nil _ _ _ _, Below.refl _ _⟩
  · have HC := hide (hc w (Below.refl _ _))
    clear hc hv
    go_enter Tryd.func48, Tryd.ntmps48
    go_wp2_with (at_builtin; refine wpList_append_own_at _ rfl _ _ 28 rfl w.heap.size 9 iS (.string ⟨#[]⟩) 1 16 Tryd.underlying28 hiS.out hzS hsS hbS rfl (by decide) (.slice none 0 0) 0 [] rfl (World.ownsRow_nil _ _ _ _) ad l.length cap (l.map .string) rfl (by simp) HC.out (by simp [Value.oneCell']) (by unfold maxLen; omega) (by omega) (Nat.le_refl _) ?_; intro v' w1 hown hgrow hnil hat; have HOWN := hide hown; have HGROW := hide hgrow; clear hown hgrow hat hnil)
    go_ret
    have hown : w1.ownsRow w.heap.size 9 1 v' l.length (l.map .string) := by simpa using HOWN.out
    exact ⟨_, rfl, hown, (Below.refl _ _).grown HGROW.out (Nat.le_refl _) (fun k h => by cases h)⟩

set_option maxHeartbeats 1000000 in
theorem copyStore_row (s : St) (gv : Value) (w : World) (lo hi : Nat) (hv : StrsAt w lo hi gv s.groups) (hhi : hi ≤ w.heap.size) (hl : s.groups.length ≤ 1048576) :
    Calls Tryd.prog 33 #[stV s gv] w fun e w' => ∃ v', e = .returned (stV s v') ∧ StrRow w' w.heap.size v' s.groups ∧ Below w.heap.size w w' := by
  obtain ⟨gen, text, groups, next⟩ := s
  have hv : StrsAt w lo hi gv groups := hv
  have hl : groups.length ≤ 1048576 := hl
  show Calls Tryd.prog 33 #[.agg #[.int .i64 gen, .string text, gv, .int .i64 next]] w _
  have HA : Hid (∀ o1 o2, Below w.heap.size w ((w.alloc o1).alloc o2)) := fun o1 o2 => ((Below.refl _ _).alloc (Nat.le_refl _) o1).alloc (by simp) o2
  have HC : Hid (∀ o1 o2, Calls Tryd.prog 48 #[gv] ((w.alloc o1).alloc o2) fun e w' => ∃ v', e = .returned v' ∧ StrRow w' ((w.alloc o1).alloc o2).heap.size v' groups ∧ Below ((w.alloc o1).alloc o2).heap.size ((w.alloc o1).alloc o2) w') := fun o1 o2 =>
    copyNames_row groups gv _ lo hi (hv.keep (HA.out o1 o2) hhi) (Nat.le_trans hhi (HA.out o1 o2).size) hl
  have HB0 : Hid (∀ A t o2, Blk ((w.alloc (.cells A t)).alloc o2) w.heap.size A t) := fun A t o2 => (Blk.new _ _ _).alloc _
  have HB1 : Hid (∀ o1 A t, Blk ((w.alloc o1).alloc (.cells A t)) (w.heap.size + 1) A t) := fun o1 A t => Blk.atn (by simp)
  have HZ : Hid (∀ o1 o2, ((w.alloc o1).alloc o2).heap.size = w.heap.size + 2) := fun o1 o2 => by simp
  obtain ⟨a, cap, rfl, _⟩ := id hv
  clear hv
  go_enter Tryd.func33, Tryd.ntmps33
  go_wp2_with fail
  refine (HC.out _ _).mono ?_
  rintro e w1 ⟨v', rfl, hR, hB⟩
  have q0 := (HB0.out _ _ _).below hB (HB0.out _ _ _).lt
  have q1 := (HB1.out _ _ _).below hB (HB1.out _ _ _).lt
  have hBw := (HA.out _ _).trans (hB.mono (HA.out _ _).size)
  rw [HZ.out] at hR
  have hz2 := hB.size
  rw [HZ.out] at hz2
  obtain ⟨a2, c2, rfl⟩ := ownsRow_form hR
  have x0 := q0.cell 0 _ rfl
  have x1 := q0.cell 1 _ rfl
  have x2 := q0.cell 2 _ rfl
  have x3 := q0.cell 3 _ rfl
  have f2 := q0.frozen 2
  have y0 := q1.cell 0 _ rfl
  have y1 := q1.cell 1 _ rfl
  have y2 := q1.cell 2 _ rfl
  have y3 := q1.cell 3 _ rfl
  have g0 := q1.frozen 0
  have g1 := q1.frozen 1
  have g2 := q1.frozen 2
  have g3 := q1.frozen 3
  have HR := hide hR
  have HBw := hide hBw
  have HZ2 := hide hz2
  clear hR hB q0 q1 hBw hz2 HC HA HB0 HB1 HZ
  go_wp2_with fail
  refine bodyPost_ret (v := .agg #[.int .i64 gen, .string text, .slice a2 groups.length c2, .int .i64 next]) (by simp [results, Tryd.results33, go_sem, y0, y1, y2, y3]) rfl ?_
  refine ⟨_, rfl, ?_, ?_⟩
  · refine StrRow.base (lo := w.heap.size + 2) ?_ (by omega)
    repeat (refine StrRow.other ?_ _ _ (by show _ < _; simp))
    exact HR.out
  · repeat (refine Below.setCell ?_ (by show _ ≤ _; simp) _)
    exact HBw.out

set_option maxHeartbeats 1000000 in
theorem l22Copy_row (s : St) (gv : Value) (w : World) (lo hi : Nat) (hv : StrsAt w lo hi gv s.groups) (hhi : hi ≤ w.heap.size) (hl : s.groups.length ≤ 1048576) :
    Calls Tryd.prog 27 #[stV s gv] w fun e w' => ∃ v', e = .returned (stV s v') ∧ StrRow w' w.heap.size v' s.groups ∧ Below w.heap.size w w' := by
  obtain ⟨gen, text, groups, next⟩ := s
  have hv : StrsAt w lo hi gv groups := hv
  have hl : groups.length ≤ 1048576 := hl
  show Calls Tryd.prog 27 #[.agg #[.int .i64 gen, .string text, gv, .int .i64 next]] w _
  have HA : Hid (∀ o1 o2 o3, Below w.heap.size w (((w.alloc o1).alloc o2).alloc o3)) := fun o1 o2 o3 => (((Below.refl _ _).alloc (Nat.le_refl _) o1).alloc (by simp) o2).alloc (by simp; omega) o3
  have HB0 : Hid (∀ A t o2 o3, Blk (((w.alloc (.cells A t)).alloc o2).alloc o3) w.heap.size A t) := fun A t o2 o3 => ((Blk.new _ _ _).alloc _).alloc _
  have HB1 : Hid (∀ o1 A t o3, Blk (((w.alloc o1).alloc (.cells A t)).alloc o3) (w.heap.size + 1) A t) := fun o1 A t o3 => (Blk.atn (by simp)).alloc _
  have HB2 : Hid (∀ o1 o2, Blk (((w.alloc o1).alloc o2).alloc (.cells #[] 9)) (w.heap.size + 1 + 1) #[] 9) := fun o1 o2 => Blk.atn (by simp)
  have HZ : Hid (∀ o1 o2 o3, (((w.alloc o1).alloc o2).alloc o3).heap.size = w.heap.size + 3) := fun o1 o2 o3 => by simp
  obtain ⟨iS, hiS', hzS, hsS, hbS⟩ := info_S
  have hiS := hide hiS'
  clear hiS'
  obtain ⟨a, cap, rfl, _⟩ := id hv
  have HEnd : Hid (∀ w1 a2 c2, Blk w1 w.heap.size #[.int .i64 gen, .string text, .slice a groups.length cap, .int .i64 next] 32 → Blk w1 (w.heap.size + 1) #[.int .i64 0, .string ⟨#[]⟩, .slice none 0 0, .int .i64 0] 32 → StrRow w1 (w.heap.size + 2) (.slice a2 groups.length c2) groups → Below w.heap.size w w1 →
      StrRow ((((((w1.setCell ⟨w.heap.size, 2, none⟩ (.slice a2 groups.length c2))).setCell ⟨w.heap.size + 1, 0, none⟩ (.int .i64 gen)).setCell ⟨w.heap.size + 1, 1, none⟩ (.string text)).setCell ⟨w.heap.size + 1, 2, none⟩ (.slice a2 groups.length c2)).setCell ⟨w.heap.size + 1, 3, none⟩ (.int .i64 next)) w.heap.size (.slice a2 groups.length c2) groups ∧
      Below w.heap.size w ((((((w1.setCell ⟨w.heap.size, 2, none⟩ (.slice a2 groups.length c2))).setCell ⟨w.heap.size + 1, 0, none⟩ (.int .i64 gen)).setCell ⟨w.heap.size + 1, 1, none⟩ (.string text)).setCell ⟨w.heap.size + 1, 2, none⟩ (.slice a2 groups.length c2)).setCell ⟨w.heap.size + 1, 3, none⟩ (.int .i64 next))) := fun w1 a2 c2 _ _ hR hB => by
    refine ⟨?_, ?_⟩
    · refine StrRow.base (lo := w.heap.size + 2) ?_ (by omega)
      repeat (refine StrRow.other ?_ _ _ (by show _ < _; simp))
      exact hR
    · repeat (refine Below.setCell ?_ (by show _ ≤ _; simp) _)
      exact hB
  rcases news_strs hv hhi with ⟨rfl, rfl⟩ | ⟨ad, rfl, hc⟩
  · clear hv
    go_enter Tryd.func27, Tryd.ntmps27
    go_wp2_with fail
    refine bodyPost_ret (v := .agg #[.int .i64 gen, .string text, .slice (some ⟨w.heap.size + 1 + 1, 0, none⟩) 0 0, .int .i64 next]) (by simp [results, Tryd.results27, go_sem]) rfl ?_
    exact ⟨_, rfl, own_none (HB2.out _ _) (by omega), HA.out _ _ _⟩
  · have HC : Hid (∀ o1 o2 o3, ∀ j u, (groups.map Value.string)[j]? = some u → (((w.alloc o1).alloc o2).alloc o3).cell? (ad.add j) = some u) := fun o1 o2 o3 => hc _ (HA.out o1 o2 o3)
    clear hc hv
    go_enter Tryd.func27, Tryd.ntmps27
    go_wp2_with (at_builtin; refine wpList_append_own_at _ rfl _ _ 28 rfl (w.heap.size + 2) 9 iS (.string ⟨#[]⟩) 1 16 Tryd.underlying28 hiS.out hzS hsS hbS rfl (by decide) (.slice (some ⟨w.heap.size + 1 + 1, 0, none⟩) 0 0) 0 [] rfl (own_none (HB2.out _ _) (by omega)) ad groups.length cap (groups.map .string) rfl (by simp) (HC.out _ _ _) (by simp [Value.oneCell']) (by unfold maxLen; omega) (by omega) (by rw [HZ.out]; omega) ?_; intro v' w1 hown hgrow hnil hat; have hq0 := (HB0.out _ _ _ _).grown hgrow (fun h => by simp only [Value.ownBlock, Option.some.injEq] at h; omega); have hq1 := (HB1.out _ _ _ _).grown hgrow (fun h => by simp only [Value.ownBlock, Option.some.injEq] at h; omega); have HQ0 := hide hq0; have HQ1 := hide hq1; have x0 := hq0.cell 0 _ rfl; have x1 := hq0.cell 1 _ rfl; have x2 := hq0.cell 2 _ rfl; have x3 := hq0.cell 3 _ rfl; have f2 := hq0.frozen 2; have y0 := hq1.cell 0 _ rfl; have y1 := hq1.cell 1 _ rfl; have y2 := hq1.cell 2 _ rfl; have y3 := hq1.cell 3 _ rfl; have g0 := hq1.frozen 0; have g1 := hq1.frozen 1; have g2 := hq1.frozen 2; have g3 := hq1.frozen 3; have HBw : Hid (Below w.heap.size w w1) := (HA.out _ _ _).grown hgrow (by rw [HZ.out]; omega) (fun k h => by simp [Value.ownBlock] at h; omega); obtain ⟨a2, c2, hv2⟩ := ownsRow_form hown; rw [Nat.zero_add] at hv2; subst hv2; have HR : Hid (StrRow w1 (w.heap.size + 2) (.slice a2 groups.length c2) groups) := (by simpa using hown : w1.ownsRow (w.heap.size + 2) 9 1 (.slice a2 groups.length c2) groups.length (groups.map .string)); clear hown hgrow hat hnil hq0 hq1)
    refine bodyPost_ret (v := .agg #[.int .i64 gen, .string text, .slice a2 groups.length c2, .int .i64 next]) (by simp [results, Tryd.results27, go_sem, y0, y1, y2, y3]) rfl ?_
    exact ⟨_, rfl, HEnd.out w1 a2 c2 HQ0.out HQ1.out HR.out HBw.out⟩

end Go.Proofs.YtofgadldopaniaaDoor
