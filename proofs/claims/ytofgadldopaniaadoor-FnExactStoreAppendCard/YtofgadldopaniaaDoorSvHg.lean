/- A store with one group more. -/
import Derived.Test.YtofgadldopaniaaDoorSvJ
import Derived.Test.YtofgadldopaniaaDoorSvW
import Derived.Deep.RegionWith
import Derived.Deep.RegionLaw
namespace Go.Proofs.YtofgadldopaniaaDoor
open Go.RowKit

theorem StrRow.snoc {W : World} {lo n : Nat} {v : Value} {l : List ByteArray} {d : ByteArray} (hn : n = l.length) (h : W.ownsRow lo 9 1 v (n + 1) (l.map .string ++ [.string d])) : StrRow W lo v (l ++ [d]) := by
  subst hn
  unfold StrRow
  rw [List.map_append, List.length_append]
  exact h
theorem cell_one_at {W : World} {A : Array Value} {t : TypeId} {x : Value} (h : A = #[x]) : ∀ j u, [x][j]? = some u → (W.alloc (.cells A t)).cell? ((⟨W.heap.size, 0, none⟩ : Addr).add j) = some u := by
  subst h
  intro j u hu
  have e : Addr.add ⟨W.heap.size, 0, none⟩ j = ⟨W.heap.size, j, none⟩ := by unfold Addr.add; split <;> simp_all
  rw [e]
  rcases j with _ | j
  · simp at hu; subst hu; exact (Blk.new W #[x] t).cell 0 _ rfl
  · simp at hu

theorem cell_one_n {W : World} {b : Nat} {A : Array Value} {t : TypeId} {x : Value} (hb : W.heap.size = b) (h : A = #[x]) : ∀ j u, [x][j]? = some u → (W.alloc (.cells A t)).cell? ((⟨b, 0, none⟩ : Addr).add j) = some u := by
  subst hb
  exact cell_one_at h

theorem wg_row {w1 : World} {lo k0 : Nat} {v : Value} {l : List ByteArray} (h : StrRow w1 lo v l) (hne : ∀ k, v.ownBlock = some k → k ≠ k0 ∧ k ≠ k0 + 1) (u0 u1 u2 u3 u4 u5 : Value) :
    StrRow ((((((w1.setCell ⟨k0, 2, none⟩ u0).setCell ⟨k0, 3, none⟩ u1).setCell ⟨k0 + 1, 0, none⟩ u2).setCell ⟨k0 + 1, 1, none⟩ u3).setCell ⟨k0 + 1, 2, none⟩ u4).setCell ⟨k0 + 1, 3, none⟩ u5).drew lo v l := by
  refine ownsRow_same h fun k hk => ?_
  obtain ⟨h0, h1⟩ := hne k hk
  rw [show ∀ W : World, W.drew.heap = W.heap from fun _ => rfl]
  rw [Below.heap_setCell _ _ _ _ (by exact h1), Below.heap_setCell _ _ _ _ (by exact h1), Below.heap_setCell _ _ _ _ (by exact h1), Below.heap_setCell _ _ _ _ (by exact h1), Below.heap_setCell _ _ _ _ (by exact h0), Below.heap_setCell _ _ _ _ (by exact h0)]
theorem wg_below {w w1 : World} {lo k0 : Nat} (h : Below lo w w1) (hl : lo ≤ k0) (u0 u1 u2 u3 u4 u5 : Value) :
    Below lo w ((((((w1.setCell ⟨k0, 2, none⟩ u0).setCell ⟨k0, 3, none⟩ u1).setCell ⟨k0 + 1, 0, none⟩ u2).setCell ⟨k0 + 1, 1, none⟩ u3).setCell ⟨k0 + 1, 2, none⟩ u4).setCell ⟨k0 + 1, 3, none⟩ u5).drew := by
  have hl1 : lo ≤ k0 + 1 := by omega
  exact ((((((h.setCell (p := ⟨k0, 2, none⟩) hl u0).setCell (p := ⟨k0, 3, none⟩) hl u1).setCell (p := ⟨k0 + 1, 0, none⟩) hl1 u2).setCell (p := ⟨k0 + 1, 1, none⟩) hl1 u3).setCell (p := ⟨k0 + 1, 2, none⟩) hl1 u4).setCell (p := ⟨k0 + 1, 3, none⟩) hl1 u5).drew
theorem wg_size {w1 : World} {n k0 : Nat} (h : n ≤ w1.heap.size) (u0 u1 u2 u3 u4 u5 : Value) :
    n ≤ ((((((w1.setCell ⟨k0, 2, none⟩ u0).setCell ⟨k0, 3, none⟩ u1).setCell ⟨k0 + 1, 0, none⟩ u2).setCell ⟨k0 + 1, 1, none⟩ u3).setCell ⟨k0 + 1, 2, none⟩ u4).setCell ⟨k0 + 1, 3, none⟩ u5).drew.heap.size := by
  rw [show ∀ W : World, W.drew.heap = W.heap from fun _ => rfl]
  simpa [World.setCell] using h

set_option maxRecDepth 100000 in
set_option maxHeartbeats 4000000 in
theorem withGroup_any (s : St) (lo : Nat) (ga : Option Addr) (gc : Nat) (g : ByteArray) (w : World) (hR : StrRow w lo (.slice ga s.groups.length gc) s.groups) (hlo : lo ≤ w.heap.size) (hl : s.groups.length ≤ 1048576) (hg : g.size ≤ 1048576) (hnx : 0 ≤ s.next ∧ s.next ≤ 1000) :
    Calls Tryd.prog 36 #[stV s (.slice ga s.groups.length gc), .string g] w fun e w' => ∃ v', e = .returned (stV ⟨s.gen, s.text, s.groups ++ [g], s.next + gbl g.size⟩ v') ∧ StrRow w' lo v' (s.groups ++ [g]) ∧ Below lo w w' ∧ w.heap.size ≤ w'.heap.size := by
  obtain ⟨gen, text, groups, next⟩ := s
  have hR : StrRow w lo (.slice ga groups.length gc) groups := hR
  have hl : groups.length ≤ 1048576 := hl
  obtain ⟨hn0, hn1⟩ : 0 ≤ next ∧ next ≤ 1000 := hnx
  show Calls Tryd.prog 36 #[.agg #[.int .i64 gen, .string text, .slice ga groups.length gc, .int .i64 next], .string g] w (fun e w' => ∃ v', e = .returned (.agg #[.int .i64 gen, .string text, v', .int .i64 (next + gbl g.size)]) ∧ StrRow w' lo v' (groups ++ [g]) ∧ Below lo w w' ∧ w.heap.size ≤ w'.heap.size)
  obtain ⟨iS, hiS', hzS, hsS, hbS⟩ := info_S
  have hiS := hide hiS'
  clear hiS'
  have HGb := hide (fun W => groupBlocks_any g.size W hg)
  have hgb : gbl g.size ≤ 100000 := by unfold gbl; omega
  generalize gbl g.size = q at *
  have HA : Hid (∀ o1 o2 o3, Below lo w (((w.alloc o1).alloc o2).alloc o3)) := fun o1 o2 o3 => (((Below.refl _ _).alloc hlo o1).alloc (by simp; omega) o2).alloc (by simp; omega) o3
  have HB0 : Hid (∀ A t o2 o3, Blk (((w.alloc (.cells A t)).alloc o2).alloc o3) w.heap.size A t) := fun A t o2 o3 => ((Blk.new _ _ _).alloc _).alloc _
  have HB1 : Hid (∀ o1 A t o3, Blk (((w.alloc o1).alloc (.cells A t)).alloc o3) (w.heap.size + 1) A t) := fun o1 A t o3 => (Blk.atn (by simp)).alloc _
  have HZ : Hid (∀ o1 o2 o3, (((w.alloc o1).alloc o2).alloc o3).heap.size = w.heap.size + 3) := fun o1 o2 o3 => by simp
  have HRow : Hid (∀ o1 o2 o3, (((w.alloc o1).alloc o2).alloc o3).ownsRow lo 9 1 (.slice ga groups.length gc) groups.length (groups.map .string)) := fun o1 o2 o3 => ((hR.alloc o1).alloc o2).alloc o3
  have HLt := hide (fun k (h : (Value.slice ga groups.length gc).ownBlock = some k) => And.intro (row_base hR k h) (StrRow.lt hR k h))
  go_enter Tryd.func36, Tryd.ntmps36
  go_wp2_with (at_builtin; refine wpList_append_own_at _ rfl _ _ 28 rfl lo 9 iS (.string ⟨#[]⟩) 1 16 Tryd.underlying28 hiS.out hzS hsS hbS rfl (by decide) (.slice ga groups.length gc) groups.length (groups.map .string) rfl (HRow.out _ _ _) ⟨_, 0, none⟩ 1 1 [.string g] rfl (by simp) (cell_one_n (by simp) rfl) (by simp [Value.oneCell']) (by unfold maxLen; omega) (by omega) (by rw [HZ.out]; omega) ?_; intro v' w1 hown hgrow hnil hat; have hq0 := (HB0.out _ _ _ _).grown hgrow (fun h => by have := HLt.out _ h.symm; omega); have hq1 := (HB1.out _ _ _ _).grown hgrow (fun h => by have := HLt.out _ h.symm; omega); have HQ0 := hide hq0; have HQ1 := hide hq1; have x0 := hq0.cell 0 _ rfl; have x1 := hq0.cell 1 _ rfl; have x2 := hq0.cell 2 _ rfl; have x3 := hq0.cell 3 _ rfl; have f0 := hq0.frozen 0; have f1 := hq0.frozen 1; have f2 := hq0.frozen 2; have f3 := hq0.frozen 3; have y0 := hq1.cell 0 _ rfl; have y1 := hq1.cell 1 _ rfl; have y2 := hq1.cell 2 _ rfl; have y3 := hq1.cell 3 _ rfl; have g0 := hq1.frozen 0; have g1 := hq1.frozen 1; have g2 := hq1.frozen 2; have g3 := hq1.frozen 3; have HBw : Hid (Below lo w w1) := (HA.out _ _ _).grown hgrow (by rw [HZ.out]; omega) (fun k h => (HLt.out k h).1); have HZ1 : Hid (w.heap.size + 3 ≤ w1.heap.size) := (by have := hgrow.size; rw [HZ.out] at this; exact this); obtain ⟨a2, c2, hv2⟩ := ownsRow_form hown; subst hv2; have HOwn := hide hown; have HAt := hide hat; clear hown hgrow hat hnil hq0 hq1)
  have hw1 : IntKind.i64.wrap (next + (q : Int)) = next + (q : Int) := by rw [IntKind.wrap_i64]; omega
  go_region_with (go_at_call 34; refine (HGb.out _).mono ?_; rintro e5 w5 ⟨rfl, rfl⟩)
  all_goals
    go_wp2_with fail
    refine bodyPost_ret (v := .agg #[.int .i64 gen, .string text, .slice a2 (groups.length + 1) c2, .int .i64 (next + q)]) (by simp [results, Tryd.results36, go_sem, y0, y1, y2, y3]) rfl ?_
    refine ⟨_, rfl, wg_row (StrRow.snoc rfl HOwn.out) (fun k hk => ?_) _ _ _ _ _ _, wg_below HBw.out hlo _ _ _ _ _ _, ?_⟩
    · rcases HAt.out with h | h
      · rw [hk] at h
        have := HLt.out k h.symm
        omega
      · rw [hk] at h
        have h2 : k = w.heap.size + 1 + 1 + 1 := by simpa using Option.some.inj h
        omega
    · exact Nat.le_trans (by omega) (wg_size HZ1.out _ _ _ _ _ _)

end Go.Proofs.YtofgadldopaniaaDoor
