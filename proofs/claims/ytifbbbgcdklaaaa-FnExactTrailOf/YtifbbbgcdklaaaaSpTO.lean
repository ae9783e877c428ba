/- The specification's TrailOf. -/
import Derived.Test.YtifbbbgcdklaaaaTOB
namespace Go.Proofs.Ytifbbbgcdklaaaa
open Go.RowKit

set_option maxHeartbeats 40000000 in
theorem specTrailOf_at (hd : Bool) (hm : Int) (hda : ByteArray) (va : Option Addr) (vm vc : Nat) (ua : Option Addr) (um uc : Nat) (kind : Int) (path dst : List ByteArray) (num : Int) (data : ByteArray) (pa : Option Addr) (pc : Nat) (ta : Option Addr) (tc : Nat) (ok cb dd : Bool) (res : List Mk) (hres : res = if ok = true ∧ cb = true then if kind = 5 then [⟨path, dd⟩, ⟨dst, dd⟩] else [⟨path, false⟩] else []) (w : World) (lo hi : Nat)
    (hOk : ∀ W, Below w.heap.size w W → Calls Try.prog 19 #[.agg #[.bool hd, .int .i64 hm, .string hda, .slice va vm vc, .slice ua um uc]] W fun e w' => e = .returned (.bool ok) ∧ Below W.heap.size W w')
    (hCb : ∀ W, Below w.heap.size w W → Calls Try.prog 20 #[.agg #[.int .i64 kind, .slice pa path.length pc, .slice ta dst.length tc, .int .i64 num, .string data]] W fun e w' => e = .returned (.bool cb) ∧ Below W.heap.size W w')
    (hAt : ok = true → ∀ W, Below w.heap.size w W → Calls Try.prog 21 #[.agg #[.bool hd, .int .i64 hm, .string hda, .slice va vm vc, .slice ua um uc], .slice pa path.length pc] W fun e w' => ∃ mo da na nm nc ka km kc b, e = .returned (.tuple #[.agg #[.bool dd, .int .i64 mo, .string da, .slice na nm nc, .slice ka km kc], .bool b]) ∧ Below W.heap.size W w')
    (hpath : StrsAt w lo hi (.slice pa path.length pc) path) (hdst : StrsAt w lo hi (.slice ta dst.length tc) dst) (hhi : hi ≤ w.heap.size) (hl1 : path.length ≤ 1048576) (hl2 : dst.length ≤ 1048576) (hn1 : cb = true → 0 < path.length) (hn2 : cb = true → kind = 5 → 0 < dst.length) :
    Calls Try.prog 6 #[.agg #[.bool hd, .int .i64 hm, .string hda, .slice va vm vc, .slice ua um uc], .agg #[.int .i64 kind, .slice pa path.length pc, .slice ta dst.length tc, .int .i64 num, .string data]] w fun e w' => ∃ v, e = .returned v ∧
      MksAt w' w.heap.size w'.heap.size v res ∧ Below w.heap.size w w' := by
  have HR := hide hres
  clear hres
  have HP := hide hpath
  have HT := hide hdst
  clear hpath hdst
  go_enter Try.func6, Try.ntmps6
  go_wp2_with fail
  generalize hW : (w.alloc (Obj.cells #[.bool hd, .int .i64 hm, .string hda, .slice va vm vc, .slice ua um uc] 34)).alloc (Obj.cells #[.int .i64 kind, .slice pa path.length pc, .slice ta dst.length tc, .int .i64 num, .string data] 36) = W
  have HW : Hid (TO w #[.bool hd, .int .i64 hm, .string hda, .slice va vm vc, .slice ua um uc] #[.int .i64 kind, .slice pa path.length pc, .slice ta dst.length tc, .int .i64 num, .string data] W) := by
    subst hW
    exact ⟨(Blk.new _ _ _).alloc _, blkAt (by simp), ((Below.refl _ _).alloc (Nat.le_refl _) _).alloc (by simp) _, by simp⟩
  clear hW
  refine (hOk W HW.out.2.2.1).mono ?_
  rintro e w1 ⟨rfl, hB1⟩
  have H1 := hide (HW.out.next hB1)
  clear hB1 HW hOk
  cases ok with
  | false =>
    have hr := HR.out
    rw [if_neg (by simp)] at hr
    subst hr
    go_wp2_with fail
    go_ret
    exact ⟨_, rfl, mks_none _ _ _ _ _, H1.out.2.2.1.alloc H1.out.2.2.1.size _⟩
  | true =>
    have x0 := H1.out.2.1.cell 0 _ rfl
    have x1 := H1.out.2.1.cell 1 _ rfl
    have x2 := H1.out.2.1.cell 2 _ rfl
    have x3 := H1.out.2.1.cell 3 _ rfl
    have x4 := H1.out.2.1.cell 4 _ rfl
    go_wp2_with fail
    refine (hCb w1 H1.out.2.2.1).mono ?_
    rintro e w2 ⟨rfl, hB2⟩
    have H2 := hide (H1.out.next hB2)
    clear hB2 H1 hCb x0 x1 x2 x3 x4
    cases cb with
    | false =>
      have hr := HR.out
      rw [if_neg (by simp)] at hr
      subst hr
      go_wp2_with fail
      go_ret
      exact ⟨_, rfl, mks_none _ _ _ _ _, H2.out.2.2.1.alloc H2.out.2.2.1.size _⟩
    | true =>
      have h1p := hn1 rfl
      obtain ⟨a', c', he, hml, hs, hc⟩ := HP.out
      simp only [Value.slice.injEq, true_and] at he
      obtain ⟨rfl, rfl⟩ := he
      obtain ⟨iS, hiS', hzS, hsS, hbS⟩ := info_S
      have hiS := hide hiS'
      have HSz := hide hs
      clear hiS' hs hn1
      obtain ⟨b, o, rfl, hb1, hb2, hcell⟩ := hc h1p
      have HC := hide (fun W hB => strs_cells (W := W) hcell (show b < w.heap.size by omega) hB)
      clear hc hcell
      have HBe : Hid (Blk (w2.alloc (.cells #[] 9)) w2.heap.size #[] 9 ∧ Below w.heap.size w (w2.alloc (.cells #[] 9))) := ⟨Blk.new _ _ _, H2.out.2.2.1.alloc H2.out.2.2.1.size _⟩
      have HX2 : Hid (TO w #[.bool hd, .int .i64 hm, .string hda, .slice va vm vc, .slice ua um uc] #[.int .i64 kind, .slice (some ⟨b, o, none⟩) path.length pc, .slice ta dst.length tc, .int .i64 num, .string data] (w2.alloc (.cells #[] 9))) := H2.out.next ((Below.refl _ _).alloc (Nat.le_refl _) _)
      have x1 := HX2.out.2.1.cell 1 _ rfl
      have HG : Hid (∀ w3 : World, (w2.alloc (.cells #[] 9)).grownBy w3 (Value.slice (some ⟨w2.heap.size, 0, none⟩) 0 0).ownBlock → Below w2.heap.size w2 w3) := fun w3 hg =>
        ((Below.refl _ _).alloc (Nat.le_refl _) _).grown hg (by simp) (fun q hq => Nat.le_of_eq (Option.some.inj hq))
      have HZ : Hid (∀ (w3 : World) (v' : Value), w3.ownsRow w2.heap.size 9 1 v' (0 + path.length) ([] ++ path.map .string) → w3.ownsRow w2.heap.size 9 1 v' path.length (path.map .string)) := fun w3 v' h => by simpa using h
      by_cases hk5 : kind = 5
      · subst hk5
        have hr := HR.out
        rw [if_pos (by simp), if_pos rfl] at hr
        subst hr
        have h2p := hn2 (by first | rfl | trivial) rfl
        have HAt := hide (hAt (by first | rfl | trivial))
        clear HR hn2 hAt
        go_wp2_with (at_builtin; (refine wpList_append_own_at _ rfl _ _ 22 rfl w2.heap.size 9 iS (.string ⟨#[]⟩) 1 16 Try.underlying22 hiS.out hzS hsS hbS rfl (by decide) (.slice (some ⟨w2.heap.size, 0, none⟩) 0 0) 0 [] rfl (own_none HBe.out.1 (Nat.le_refl _)) ⟨b, o, none⟩ path.length pc (path.map .string) rfl (by simp) (HC.out _ HBe.out.2) (by simp [Value.oneCell']) (by unfold maxLen; omega) (by omega) (by simp) ?_; intro v' w3 hown hgrow hnil hat; have hown' := HZ.out _ _ hown; have HST := hide (strs_row hown' hml HSz.out); obtain ⟨av, cv, rfl⟩ := ownsRow_form hown'; have H3 := hide (H2.out.next (HG.out _ hgrow)); have y0 := H3.out.2.1.cell 0 _ rfl; have y1 := H3.out.2.1.cell 1 _ rfl; have z0 := H3.out.1.cell 0 _ rfl; have z1 := H3.out.1.cell 1 _ rfl; have z2 := H3.out.1.cell 2 _ rfl; have z3 := H3.out.1.cell 3 _ rfl; have z4 := H3.out.1.cell 4 _ rfl; clear hown hown' hgrow hat hnil))
        refine (HAt.out w3 H3.out.2.2.1).mono ?_
        rintro e w4 ⟨mo, da, na, nm, nc, ka, km, kc, bb, rfl, hB4⟩
        have H4 := hide (H3.out.next hB4)
        have HST4 := hide (HST.out.keep hB4 (Nat.le_refl _))
        have HZ4 := hide hB4.size
        clear hB4 HST H3 HAt y0 y1 z0 z1 z2 z3 z4 x1
        obtain ⟨a', c', he, hml2, hs2, hc2⟩ := HT.out
        simp only [Value.slice.injEq, true_and] at he
        obtain ⟨rfl, rfl⟩ := he
        obtain ⟨b2, o2, rfl, hb21, hb22, hcell2⟩ := hc2 h2p
        have HSz2 := hide hs2
        have HBe2 : Hid (∀ o1 o2', Below w4.heap.size w4 ((w4.alloc o1).alloc o2')) := fun o1 o2' => ((Below.refl _ _).alloc (Nat.le_refl _) _).alloc (by simp) _
        have HC2 : Hid (∀ o1 o2' j u, (dst.map Value.string)[j]? = some u → ((w4.alloc o1).alloc o2').drew.cell? ((⟨b2, o2, none⟩ : Addr).add j) = some u) := fun o1 o2' => strs_cells hcell2 (show b2 < w.heap.size by omega) (H4.out.2.2.1.trans ((HBe2.out o1 o2').drew.mono H4.out.2.2.1.size))
        clear hc2 hcell2 hs2
        have y2 : ∀ o', (w4.alloc o').cell? ⟨w.heap.size + 1, 2, none⟩ = some (.slice (some ⟨b2, o2, none⟩) dst.length tc) := fun o' => (H4.out.next ((Below.refl _ _).alloc (Nat.le_refl _) o')).2.1.cell 2 _ rfl
        have y22 : ∀ o1 o2', ((w4.alloc o1).alloc o2').cell? ⟨w.heap.size + 1, 2, none⟩ = some (.slice (some ⟨b2, o2, none⟩) dst.length tc) := fun o1 o2' => (H4.out.next (HBe2.out o1 o2')).2.1.cell 2 _ rfl
        have d22 : ∀ c o2', ((w4.alloc (.cells c 34)).alloc o2').cell? ⟨w4.heap.size, 0, none⟩ = c[0]? := fun c o2' => cell_of_row _ _ 0 c 34 (0, 0) ((Blk.new w4 c 34).alloc o2')
        have HO2 : Hid (∀ o1, ((w4.alloc o1).alloc (.cells #[] 9)).drew.ownsRow w4.heap.size 9 1 (.slice (some ⟨w4.heap.size + 1, 0, none⟩) 0 0) 0 []) := fun o1 => own_none (show Blk ((w4.alloc o1).alloc (.cells #[] 9)) (w4.heap.size + 1) #[] 9 from Blk.atn (by simp)) (by omega)
        go_wp2_with fail
        go_region_law (first
          | (refine step_append_lies _ rfl (.tmp 38) (.tmp 40) 22 rfl w4.heap.size 9 iS (.string ⟨#[]⟩) 1 16 Try.underlying22 hiS.out hzS hsS hbS rfl (by decide) (.slice (some ⟨w4.heap.size + 1, 0, none⟩) 0 0) 0 [] (by simp [Act.eval, Act.put]) (HO2.out _) ⟨b2, o2, none⟩ dst.length tc (dst.map .string) (by simp [Act.eval, Act.put]) (by simp) (HC2.out _ _) (by simp [Value.oneCell']) h2p (by rw [Nat.zero_add]; exact hml2) (by omega) (by simp; omega) _ rfl ?_
             intro g cap w5 hown hgrow hat hgl
             have HOWN := hide hown
             have HD5 := hide (after_app hgrow)
             have z0 := HD5.out.1.cell 0 _ rfl
             clear hown hgrow hat hgl)
          | fail)
        all_goals
          go_wp2_with fail
          go_ret
          have hown : w5.ownsRow w4.heap.size 9 1 (.slice (some ⟨g, 0, none⟩) dst.length cap) dst.length (dst.map .string) := by simpa using HOWN.out
          have hst := strs_row hown hml2 HSz2.out
          have hbw := H4.out.2.2.1.trans (HD5.out.2.mono H4.out.2.2.1.size)
          have hpt := HST4.out.keep HD5.out.2 HZ4.out
          have hz := hbw.size
          have hz2 := H2.out.2.2.1.size
          have hz4 := H4.out.2.2.1.size
          have hz5 := HD5.out.2.size
          have hz3 := HZ4.out
          have hal : ∀ o', Below w5.heap.size w5 (w5.alloc o') := fun o' => (Below.refl _ _).alloc (Nat.le_refl _) _
          exact ⟨_, rfl, mks_two (Blk.new w5 _ _) hz ((hpt.keep (hal _) (by omega)).wide hz2 (by simp; omega)) ((hst.keep (hal _) (Nat.le_refl _)).wide hz4 (by simp)), hbw.alloc hz _⟩
      · have hk5' : (kind != 5) = true := by simpa using hk5
        have hr := HR.out
        rw [if_pos (by simp), if_neg hk5] at hr
        subst hr
        clear hk5 HR
        go_wp2_with (at_builtin; (refine wpList_append_own_at _ rfl _ _ 22 rfl w2.heap.size 9 iS (.string ⟨#[]⟩) 1 16 Try.underlying22 hiS.out hzS hsS hbS rfl (by decide) (.slice (some ⟨w2.heap.size, 0, none⟩) 0 0) 0 [] rfl (own_none HBe.out.1 (Nat.le_refl _)) ⟨b, o, none⟩ path.length pc (path.map .string) rfl (by simp) (HC.out _ HBe.out.2) (by simp [Value.oneCell']) (by unfold maxLen; omega) (by omega) (by simp) ?_; intro v' w3 hown hgrow hnil hat; have hown' := HZ.out _ _ hown; have HST := hide (strs_row hown' hml HSz.out); obtain ⟨av, cv, rfl⟩ := ownsRow_form hown'; have H3 := hide (H2.out.next (HG.out _ hgrow)); have y0 := H3.out.2.1.cell 0 _ rfl; clear hown hown' hgrow hat hnil))
        go_ret
        have hz := H3.out.2.2.1.size
        have hz2 := H2.out.2.2.1.size
        have hal : ∀ o', Below w3.heap.size w3 (w3.alloc o') := fun o' => (Below.refl _ _).alloc (Nat.le_refl _) _
        exact ⟨_, rfl, mks_one (Blk.new w3 _ _) hz ((HST.out.keep (hal _) (Nat.le_refl _)).wide hz2 (by simp)), H3.out.2.2.1.alloc hz _⟩

end Go.Proofs.Ytifbbbgcdklaaaa
