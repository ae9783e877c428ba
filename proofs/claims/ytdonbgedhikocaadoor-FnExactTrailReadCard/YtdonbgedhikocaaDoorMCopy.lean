/- spec.l11Copy: marks in memory of their own. -/
import Derived.Deep.AppendLies
import Derived.Deep.RegionLaw
import Derived.Test.YtdonbgedhikocaaDoorMAcc
import Derived.Test.YtdonbgedhikocaaDoorOwnR
import Derived.Test.YtdonbgedhikocaaDoorCutS
import Derived.Test.YtdonbgedhikocaaDoorLw
namespace Go.Proofs.YtdonbgedhikocaaDoor
open Go.RowKit

theorem info_M : ∃ i, Tryd.prog.info? 31 = some i ∧ i.zero = some (.agg #[.slice none 0 0, .bool false]) ∧ i.size = 2 ∧ i.bytes = 32 := by
  have h : (Tryd.prog.info? 31).map (fun i => (i.zero, i.size, i.bytes)) = some (some (.agg #[.slice none 0 0, .bool false]), 2, 32) := by kernel_rfl
  obtain ⟨i, hi, hz⟩ := Option.map_eq_some_iff.1 h
  simp only [Prod.mk.injEq] at hz
  exact ⟨i, hi, hz.1, hz.2.1, hz.2.2⟩
theorem mnone {w : World} {base b : Nat} (h : Blk w b #[] 31) (hb : base ≤ b) : w.ownsRow base 31 2 (.slice (some ⟨b, 0, none⟩) 0 0) 0 [] :=
  ⟨rfl, .inr ⟨b, 0, #[], rfl, hb, h, Nat.le_refl _, by unfold maxLen; omega, rfl, rfl⟩⟩
theorem MAcc.none {W : World} {lo b : Nat} (h : Blk W b #[] 31) (hb : lo ≤ b) (bs : Nat → Nat) : MAcc W lo (.slice (some ⟨b, 0, none⟩) 0 0) [] [] bs :=
  ⟨mnone h hb, fun i h => by simp at h, fun i h => by simp at h, fun i j h => by simp at h⟩

theorem mc_five {wr w5 : World} (hg : (wr.alloc (.cells #[] 9)).drew.grownBy w5 (Value.slice (some ⟨wr.heap.size, 0, none⟩) 0 0).ownBlock) : Below wr.heap.size wr w5 ∧ wr.heap.size < w5.heap.size := by
  have hb : Below wr.heap.size wr (wr.alloc (.cells #[] 9)).drew := ((Below.refl _ _).alloc (Nat.le_refl _) _).drew
  refine ⟨hb.grown hg (by simp) (fun q hq => by have h1 : wr.heap.size = q := Option.some.inj hq; omega), ?_⟩
  have := hg.size
  simp at this
  omega
theorem cell_two_new (W : World) (a b : Value) (t : TypeId) {n : Nat} (hn : W.heap.size = n) : ∀ j u, [a, b][j]? = some u → (W.alloc (.cells #[a, b] t)).cell? ((⟨n, 0, none⟩ : Addr).add j) = some u := by
  intro j u hu
  have hb : Blk (W.alloc (.cells #[a, b] t)) n #[a, b] t := Blk.atn hn
  have e : Addr.add ⟨n, 0, none⟩ j = ⟨n, j, none⟩ := by unfold Addr.add; split <;> simp_all
  rw [e]
  refine hb.cell j u ?_
  rw [← Array.getElem?_toList]
  exact hu

theorem mc_next {l : List Mk} {w wr w5 w6 : World} {k : Nat} {ov : Value} {xs : List Value} {bs : Nat → Nat} {g5 c5 g6 c6 : Nat} {o : Obj} (hlt : k < l.length) (hM : MAcc wr w.heap.size ov (l.take k) xs bs) (hB : Below w.heap.size w wr) (h5 : Below wr.heap.size wr w5 ∧ wr.heap.size < w5.heap.size)
    (hO5 : w5.ownsRow wr.heap.size 9 1 (.slice (some ⟨g5, 0, none⟩) (0 + l[k].path.length) c5) (0 + l[k].path.length) ([] ++ l[k].path.map .string)) (hsz : ∀ (i : Nat) (h : i < l[k].path.length), l[k].path[i].size ≤ maxLen)
    (hG : (w5.alloc o).grownBy w6 ov.ownBlock) (hO6 : w6.ownsRow w.heap.size 31 2 (.slice (some ⟨g6, 0, none⟩) (k + 1) c6) (k + 1) (xs ++ [.slice (some ⟨g5, 0, none⟩) l[k].path.length c5, .bool l[k].sub])) (hA : ov.ownBlock = some g6 ∨ g6 = (w5.alloc o).heap.size) :
    ∃ bs', MAcc w6 w.heap.size (.slice (some ⟨g6, 0, none⟩) (k + 1) c6) (l.take (k + 1)) (xs ++ [.slice (some ⟨g5, 0, none⟩) l[k].path.length c5, .bool l[k].sub]) bs' ∧ Below w.heap.size w w6 := by
  have hkl : (l.take k).length = k := by rw [List.length_take]; omega
  rw [Nat.zero_add, List.nil_append] at hO5
  have hb2 : Below wr.heap.size wr (w5.alloc o) := h5.1.alloc h5.1.size o
  have hs := hB.size
  obtain ⟨bs', h1, _, _⟩ := hM.add (W2 := w5.alloc o) (W3 := w6) (m := l[k]) (v' := .slice (some ⟨g6, 0, none⟩) (k + 1) c6) hs hb2 (by have := h5.2; simp; omega) (hO5.alloc o) hsz hG (by rw [hkl]; exact hO6) (by
    rcases hA with e | e
    · exact .inl e.symm
    · exact .inr (by rw [← e]; rfl))
  refine ⟨bs', by rw [List.take_succ_eq_append_getElem hlt]; exact h1, ?_⟩
  refine (hB.trans (hb2.mono hs)).grown hG (by have := h5.2; simp; omega) (fun q hq => ?_)
  exact row_aside hM.row q hq

set_option maxRecDepth 100000 in
set_option maxHeartbeats 4000000 in
theorem l11Copy_any (l : List Mk) (v : Value) (w : World) (lo hi : Nat) (hv : MksAt w lo hi v l) (hhi : hi ≤ w.heap.size) (hl : l.length ≤ 1048576) (hpl : ∀ (i : Nat) (h : i < l.length), l[i].path.length ≤ 1048576) :
    Calls Tryd.prog 12 #[v] w fun e w' => ∃ v' xs bs, e = .returned v' ∧ MAcc w' w.heap.size v' l xs bs ∧ Below w.heap.size w w' := by
  obtain ⟨a, cap, rfl, _, hc⟩ := hv
  obtain ⟨iS, hiS', hzS, hsS, hbS⟩ := info_S
  have hiS := hide hiS'
  obtain ⟨iM, hiM', hzM, hsM, hbM⟩ := info_M
  have hiM := hide hiM'
  clear hiS' hiM'
  go_enter Tryd.func12, Tryd.ntmps12
  go_wp2
  go_loopw [3, 4] (fun o i wr => ∃ (ov : Value) (k : Nat) (xs : List Value) (bs : Nat → Nat), ov = o ∧ k ≤ l.length ∧ i = .int .i64 k ∧ Hid (MAcc wr w.heap.size ov (l.take k) xs bs) ∧ Hid (Below w.heap.size w wr)) (fun _ i _ => l.length - (intOf i).toNat)
  case atStart => exact ⟨_, 0, [], fun _ => 0, rfl, Nat.zero_le _, rfl, MAcc.none (Blk.new _ _ _) (Nat.le_refl _) _, (Below.refl _ _).alloc (Nat.le_refl _) _⟩
  case round =>
    obtain ⟨ov, k, xs, bs, hov, hk, rfl, HM, HB⟩ := hrel
    subst hov
    have hsz : w.heap.size ≤ wr.heap.size := HB.out.size
    have hkl : (l.take k).length = k := by rw [List.length_take]; omega
    have HR : Hid (∀ W : World, Below wr.heap.size wr W → ∀ o', (W.alloc o').ownsRow w.heap.size 31 2 ov k xs) := fun W h o' => by
      have := (MAcc.kept HM.out (K := fun _ => True) (Kept.of_below h (fun k hk _ => hk)) (fun _ _ => trivial) (fun _ _ _ => trivial)).row
      rw [hkl] at this
      exact this.alloc o'
    have hxl : xs.length = k * 2 := by have := HM.out.row.1; rwa [hkl] at this
    clear hkl
    by_cases hlt : k < l.length
    · obtain ⟨b, o, rfl, hb1, hb2, hcell⟩ := hc (by omega)
      obtain ⟨pa, pc, c0, c1, hr⟩ := hcell k hlt
      rw [← HB.out.cell (p := ⟨b, _, none⟩) (by show b < w.heap.size; omega)] at c0 c1
      have hp := hpl k hlt
      clear hc hcell
      have d0 : ∀ o', (wr.alloc o').cell? ⟨b, o + k * 2, none⟩ = some (.slice pa l[k].path.length pc) := fun o' => by rw [World.cell?_alloc_old _ _ _ (by show b ≠ _; omega)]; exact c0
      have d1 : ∀ o', (wr.alloc o').cell? ⟨b, o + k * 2 + 1, none⟩ = some (.bool l[k].sub) := fun o' => by rw [World.cell?_alloc_old _ _ _ (by show b ≠ _; omega)]; exact c1
      by_cases h0 : 0 < l[k].path.length
      · obtain ⟨a', c', he, hml, hss, hcs⟩ := hr
        simp only [Value.slice.injEq, true_and] at he
        obtain ⟨rfl, rfl⟩ := he
        obtain ⟨pb, po, rfl, hpb1, hpb2, hpc⟩ := hcs h0
        go_wp2_with fail
        have HC : Hid (∀ j u, (l[k].path.map Value.string)[j]? = some u → (wr.alloc (.cells #[] 9)).drew.cell? ((⟨pb, po, none⟩ : Addr).add j) = some u) := fun j u hu => by
          rw [List.getElem?_map] at hu
          by_cases hj : j < l[k].path.length
          · rw [List.getElem?_eq_getElem hj] at hu
            have e : Addr.add ⟨pb, po, none⟩ j = ⟨pb, po + j, none⟩ := by unfold Addr.add; split <;> simp_all
            rw [e]
            have h5 : Below w.heap.size w (wr.alloc (.cells #[] 9)).drew := (HB.out.alloc hsz _).drew
            rw [h5.cell (p := ⟨pb, po + j, none⟩) (by show pb < w.heap.size; omega), hpc j hj]
            exact hu
          · rw [List.getElem?_eq_none (by omega)] at hu; cases hu
        have HE : Hid ((wr.alloc (.cells #[] 9)).drew.ownsRow wr.heap.size 9 1 (.slice (some ⟨wr.heap.size, 0, none⟩) 0 0) 0 []) := own_none (show Blk (wr.alloc (.cells #[] 9)) wr.heap.size #[] 9 from Blk.new _ _ _) (Nat.le_refl _)
        have HSz := hide hss
        have HB1 : Hid (∀ W, Below wr.heap.size wr W → W.cell? ⟨b, o + k * 2 + 1, none⟩ = some (.bool l[k].sub)) := fun W h => (h.cell (p := ⟨b, o + k * 2 + 1, none⟩) (by show b < _; omega)).trans c1
        clear hcs hpc hss
        go_region_law (first
          | (refine step_append_lies _ rfl (.tmp 13) (.tmp 18) 28 rfl wr.heap.size 9 iS (.string ⟨#[]⟩) 1 16 Tryd.underlying28 hiS.out hzS hsS hbS rfl (by decide) (.slice (some ⟨wr.heap.size, 0, none⟩) 0 0) 0 [] (by first | (simp [Act.eval]; done) | simp [Act.eval, Act.put]) HE.out ⟨pb, po, none⟩ l[k].path.length pc (l[k].path.map .string) (by first | (simp [Act.eval]; done) | simp [Act.eval, Act.put]) (by simp) HC.out (by simp [Value.oneCell']) h0 (by rw [Nat.zero_add]; exact hml) (by omega) (by simp) _ rfl ?_
             intro g5 c5 w5 hown hgrow hat hgl
             have HO5 := hide hown
             have H5 := hide (mc_five hgrow)
             have z5 := HB1.out w5 H5.out.1
             clear hown hgrow hat hgl)
          | (refine step_append_lies _ rfl (.tmp 12) (.tmp 26) 22 rfl w.heap.size 31 iM (.agg #[.slice none 0 0, .bool false]) 2 32 Tryd.underlying22 hiM.out hzM hsM hbM rfl (by decide) ov k xs (by first | (simp [Act.eval]; done) | simp [Act.eval, Act.put]) (HR.out w5 H5.out.1 _) ⟨w5.heap.size, 0, none⟩ 1 1 [.slice (some ⟨g5, 0, none⟩) l[k].path.length c5, .bool l[k].sub] (by first | (simp [Act.eval]; done) | simp [Act.eval, Act.put]) (by simp) (cell_two_new _ _ _ _ rfl) (by simp [Value.oneCell']) (by decide) (by unfold maxLen; omega) (by omega) (by have := H5.out.2; simp; omega) _ rfl ?_
             intro g6 c6 w6 hown hgrow hat hgl
             have HO6 := hide hown
             have HG6 := hide hgrow
             have HA6 := hide hat
             clear hown hgrow hat hgl))
        all_goals
          go_wp2_with fail
          go_roundw
          case rel =>
            obtain ⟨bs', hM', hB'⟩ := mc_next hlt HM.out HB.out H5.out HO5.out HSz.out HG6.out HO6.out HA6.out
            exact ⟨_, k + 1, _, bs', rfl, by omega, by go_num, hM', hB'⟩
          case measure => simp [intOf]; omega
      · have hp0 : l[k].path.length = 0 := by omega
        have HM5 : Hid (Below wr.heap.size wr (wr.alloc (.cells #[] 9)).drew ∧ wr.heap.size < (wr.alloc (.cells #[] 9)).drew.heap.size) := ⟨((Below.refl _ _).alloc (Nat.le_refl _) _).drew, by simp⟩
        have HO5 : Hid ((wr.alloc (.cells #[] 9)).drew.ownsRow wr.heap.size 9 1 (.slice (some ⟨wr.heap.size, 0, none⟩) (0 + l[k].path.length) 0) (0 + l[k].path.length) ([] ++ l[k].path.map .string)) := by
          rw [List.eq_nil_of_length_eq_zero hp0]
          exact own_none (show Blk (wr.alloc (.cells #[] 9)) wr.heap.size #[] 9 from Blk.new _ _ _) (Nat.le_refl _)
        have HSz : Hid (∀ (i : Nat) (h : i < l[k].path.length), l[k].path[i].size ≤ maxLen) := by obtain ⟨_, _, _, _, hss, _⟩ := hr; exact hss
        have HRW := hide (HR.out _ HM5.out.1)
        have HP0 := hide hp0
        rw [hp0] at c0 d0
        have f0 : (wr.alloc (.cells #[] 9)).drew.cell? ⟨b, o + k * 2, none⟩ = some (.slice pa 0 pc) := d0 _
        have f1 : (wr.alloc (.cells #[] 9)).drew.cell? ⟨b, o + k * 2 + 1, none⟩ = some (.bool l[k].sub) := d1 _
        clear h0 hp0 hp hr
        cases pa with
        | none =>
          go_wp2_with fail
          go_region_law (first
            | (refine step_append_lies _ rfl (.tmp 12) (.tmp 26) 22 rfl w.heap.size 31 iM (.agg #[.slice none 0 0, .bool false]) 2 32 Tryd.underlying22 hiM.out hzM hsM hbM rfl (by decide) ov k xs (by first | (simp [Act.eval]; done) | simp [Act.eval, Act.put]) (HRW.out _) ⟨wr.heap.size + 1, 0, none⟩ 1 1 [.slice (some ⟨wr.heap.size, 0, none⟩) 0 0, .bool l[k].sub] (by simp [Act.eval]) (by simp) (cell_two_new _ _ _ _ (by simp)) (by simp [Value.oneCell']) (by decide) (by unfold maxLen; omega) (by omega) (by simp; omega) _ rfl ?_
               intro g6 c6 w6 hown hgrow hat hgl
               have HO6 := hide hown
               have HG6 := hide hgrow
               have HA6 := hide hat
               clear hown hgrow hat hgl))
          all_goals
            go_wp2_with fail
            go_roundw
            case rel =>
              have hp0 := HP0.out
              have hO6 : w6.ownsRow w.heap.size 31 2 (.slice (some ⟨g6, 0, none⟩) (k + 1) c6) (k + 1) (xs ++ [.slice (some ⟨wr.heap.size, 0, none⟩) l[k].path.length 0, .bool l[k].sub]) := by rw [hp0]; exact HO6.out
              obtain ⟨bs', hM', hB'⟩ := mc_next hlt HM.out HB.out HM5.out HO5.out HSz.out HG6.out hO6 HA6.out
              exact ⟨_, k + 1, _, bs', rfl, by omega, by go_num, hM', hB'⟩
            case measure => simp [intOf]; omega
        | some ad =>
          go_wp2_with fail
          go_region_law (first
            | (refine step_append_lies _ rfl (.tmp 12) (.tmp 26) 22 rfl w.heap.size 31 iM (.agg #[.slice none 0 0, .bool false]) 2 32 Tryd.underlying22 hiM.out hzM hsM hbM rfl (by decide) ov k xs (by first | (simp [Act.eval]; done) | simp [Act.eval, Act.put]) (HRW.out _) ⟨wr.heap.size + 1, 0, none⟩ 1 1 [.slice (some ⟨wr.heap.size, 0, none⟩) 0 0, .bool l[k].sub] (by simp [Act.eval]) (by simp) (cell_two_new _ _ _ _ (by simp)) (by simp [Value.oneCell']) (by decide) (by unfold maxLen; omega) (by omega) (by simp; omega) _ rfl ?_
               intro g6 c6 w6 hown hgrow hat hgl
               have HO6 := hide hown
               have HG6 := hide hgrow
               have HA6 := hide hat
               clear hown hgrow hat hgl))
          all_goals
            go_wp2_with fail
            go_roundw
            case rel =>
              have hp0 := HP0.out
              have hO6 : w6.ownsRow w.heap.size 31 2 (.slice (some ⟨g6, 0, none⟩) (k + 1) c6) (k + 1) (xs ++ [.slice (some ⟨wr.heap.size, 0, none⟩) l[k].path.length 0, .bool l[k].sub]) := by rw [hp0]; exact HO6.out
              obtain ⟨bs', hM', hB'⟩ := mc_next hlt HM.out HB.out HM5.out HO5.out HSz.out HG6.out hO6 HA6.out
              exact ⟨_, k + 1, _, bs', rfl, by omega, by go_num, hM', hB'⟩
            case measure => simp [intOf]; omega
    · go_wp2
      go_ret
      have he : k = l.length := by omega
      subst he
      rw [List.take_length] at HM
      exact ⟨_, xs, bs, rfl, HM.out, HB.out⟩

end Go.Proofs.YtdonbgedhikocaaDoor
