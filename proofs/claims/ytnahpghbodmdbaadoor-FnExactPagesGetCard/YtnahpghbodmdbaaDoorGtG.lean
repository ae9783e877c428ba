/- PagesGet, the program's and the specification's. -/
import Derived.Test.YtnahpghbodmdbaaDoorPgSh
import Derived.Test.YtnahpghbodmdbaaDoorPgSO
import Derived.Test.YtnahpghbodmdbaaDoorCode
import Derived.Test.YtnahpghbodmdbaaDoorGtF
import Derived.Test.YtnahpghbodmdbaaDoorGtT
namespace Go.Proofs.YtnahpghbodmdbaaDoor
open Go.RowKit

set_option maxHeartbeats 2000000 in
theorem get_any (P : List Pg) (N : List Pn) (T : List Bool) (s : ByteArray) (w0 w : World) (sb lb lcap : Nat) (mv : Value) (tb : Nat) (tt : TypeId) (iv : Value) (hk : okV P N = some T) (hT : ShT w0 P N sb lb lcap mv tb tt iv (freeN T 96) T w) :
    Calls Tryd.prog 23 #[.pointer (some ⟨sb, 0, none⟩), .string s] w fun e w' => ∃ t b, e = .returned (.tuple #[.string t, .bool b]) ∧ GetR P N s t b ∧ Below w.heap.size w w' := by
  have HT2 := hide hT
  have HNm := hide (okV_nms hk)
  have HK := hide hk
  obtain ⟨qa, qc, rfl⟩ := ownsRow_form hT.nrow
  clear hT hk
  obtain ⟨nb, hNo, _⟩ := ownRcs_row HT2.out.nrow
  have HN2 := hide hNo.rcs
  have HF := hide (find_any N HNm.out.asc _ s sb w _ _ HN2.out (Nat.le_refl _) HNm.out.few HT2.out.c1)
  have HB2 : Hid (Below w.heap.size w w) := Below.refl _ _
  clear hNo
  go_enter Tryd.func23, Tryd.ntmps23
  go_wp2_with fail
  refine HF.out.mono ?_
  rintro e w3 ⟨pos, rfl, hFd, hB3⟩
  have HFd := hide hFd
  have HB3 : Hid (Below w.heap.size w w3) := HB2.out.trans (hB3.mono HB2.out.size)
  have HT3 := hide (HT2.out.step hB3)
  have HN3 := hide (HN2.out.keep hB3 (Nat.le_refl _))
  have HZ3 : Hid (w.heap.size ≤ w3.heap.size) := hB3.size
  clear hFd hB3 HF HT2 HN2
  cases hh : hasB (N.map Pn.name) s with
  | false =>
    have HR : Hid (GetR P N s ⟨#[]⟩ false) := GetR.mkOut fun i hi he => HFd.out.no hh i (by simpa using hi) (by simpa using he)
    clear hh
    go_wp2_with fail
    go_ret2
    exact ⟨_, _, rfl, HR.out, HB3.out⟩
  | true =>
    obtain ⟨hpl0, hpe0⟩ := HFd.out.yes hh
    have hpl : pos < N.length := by simpa using hpl0
    have hpe : N[pos].name = s := by simpa using hpe0
    obtain ⟨c, e0, hch⟩ := HNm.out.chain pos hpl
    have HR : Hid (GetR P N s (catP P c) true) := GetR.mkYes HK.out hpl hpe hch
    obtain ⟨hs0, hs1⟩ := HNm.out.size pos hpl
    obtain ⟨m, hm⟩ : ∃ m : Nat, N[pos].size = (m : Int) := ⟨N[pos].size.toNat, by omega⟩
    rw [hm] at hch
    simp only [Int.toNat_natCast] at hch
    have x1 := HT3.out.c1
    obtain ⟨aa, cap, he, _, hcl⟩ := HN3.out
    simp only [Value.slice.injEq] at he
    obtain ⟨rfl, _, rfl⟩ := he
    obtain ⟨b, o, rfl, _, _, hcell⟩ := hcl (by omega)
    obtain ⟨y0, y1, y2⟩ := hcell pos hpl
    simp only [fPn] at y0 y1 y2
    rw [hm] at y2
    rw [hpe] at y0
    have hrow := HT3.out.lrow
    have HTx : Hid (∀ W, Below w3.heap.size w3 W → Calls Tryd.prog 48 #[.pointer (some ⟨sb, 0, none⟩), .agg #[.string s, .int .i64 N[pos].first, .int .i64 (m : Int)]] W (fun e w' => e = .returned (.string (catP P c)) ∧ Below W.heap.size W w')) := fun W hW => by
      have hT4 := HT3.out.step hW
      have hlr := hT4.lrow
      have hl96 := HNm.out.len
      rw [← hl96] at hlr
      obtain ⟨lbb, hLo, hLb⟩ := ownRcs_row hlr
      refine text_any P _ _ m c e0 sb lb lcap W HNm.out.len (by omega) hch hT4.c0 (fun i hi => ?_) hT4.q.lt (hT4.lrow.lt lb rfl).2
      obtain ⟨a2, cap2, he2, _, hcl2⟩ := hLo.rcs
      simp only [Value.slice.injEq] at he2
      obtain ⟨rfl, _, rfl⟩ := he2
      obtain ⟨b3, o3, hb3, _, _, hc3⟩ := hcl2 (by omega)
      simp only [Option.some.injEq, Addr.mk.injEq] at hb3
      obtain ⟨rfl, rfl, _⟩ := hb3
      have := hc3 i hi
      simpa [fPg] using this
    have hlt : (pos : Int) < (N.length : Int) := by omega
    have hpl' := hpl
    generalize N[pos].first = fst at HTx y1
    clear hpl0 hpe0 hpe hch hs0 hs1 hcl hcell hrow hh hm
    go_wp2_with fail
    refine (HTx.out _ (Below.refl _ _)).mono ?_
    rintro e w4 ⟨rfl, hB4⟩
    have HB4 : Hid (Below w.heap.size w w4) := HB3.out.trans (hB4.mono HB3.out.size)
    clear hB4
    go_wp2_with fail
    go_ret2
    exact ⟨_, _, rfl, HR.out, HB4.out⟩

set_option maxHeartbeats 2000000 in
theorem implGet_any (P : List Pg) (N : List Pn) (pv nv : Value) (s : ByteArray) (w : World) (lo hi : Nat) (hp : RcsAt fPg w lo hi pv P) (hn : RcsAt fPn w lo hi nv N) (hhi : hi ≤ w.heap.size)
    (hs : ∀ (i : Nat) (h : i < P.length), P[i].data.size ≤ maxLen) (hsn : ∀ (i : Nat) (h : i < N.length), N[i].name.size ≤ maxLen) (hg : Laid0 w) :
    Calls Tryd.prog 8 #[.agg #[pv, nv], .string s] w fun e w' => ∃ t b, e = .returned (.tuple #[.string t, .bool b]) ∧ GetR P N s t b ∧ Below w.heap.size w w' := by
  have HSh := hide (fun (W : World) (hW : Below w.heap.size w W) => shelfOf_any P N pv nv W lo hi (hp.keep hW hhi) (hn.keep hW hhi) (Nat.le_trans hhi hW.size) hs hsn)
  obtain ⟨pa, pl, pc, rfl⟩ : ∃ a n c, pv = .slice a n c := by obtain ⟨a, c, e, _⟩ := hp; exact ⟨_, _, _, e⟩
  obtain ⟨na, nl, nc, rfl⟩ : ∃ a n c, nv = .slice a n c := by obtain ⟨a, c, e, _⟩ := hn; exact ⟨_, _, _, e⟩
  have HBo : Hid (∀ o, Below w.heap.size w (w.alloc o)) := fun o => (Below.refl _ _).alloc (Nat.le_refl _) o
  have HG := hide hg
  have HGl := hide hg.lt
  clear hp hn hg
  go_enter Tryd.func8, Tryd.ntmps8
  go_wp2_with fail
  refine (HSh.out _ (HBo.out _)).mono ?_
  rintro e w1 ⟨hB1, hno, hyes⟩
  have HB1 : Hid (Below w.heap.size w w1) := (HBo.out _).trans (hB1.mono (HBo.out _).size)
  cases hk : okV P N with
  | none =>
    obtain rfl := hno hk
    have HC := hide (codeOf_ref 1 w1 (HG.out.below HB1.out HGl.out))
    have HR := hide (GetR.mkNo (s := s) hk)
    clear hB1 hno hyes
    go_wp2_with fail
    refine HC.out.mono ?_
    rintro e w2 ⟨rfl, hB2⟩
    have HB2 : Hid (Below w.heap.size w w2) := HB1.out.trans (hB2.mono HB1.out.size)
    clear hB2
    go_wp2_with fail
    go_ret2
    exact ⟨_, _, rfl, HR.out, HB2.out⟩
  | some T =>
    obtain ⟨sb, lb, lcap, mv, tb, tt, iv, rfl, hT⟩ := hyes T hk
    have HC := hide (codeOf_nil w1)
    have HT := hide hT
    have HK := hide hk
    clear hB1 hno hyes hT hk
    go_wp2_with fail
    refine HC.out.mono ?_
    rintro e w2 ⟨rfl, hB2⟩
    have HB2 : Hid (Below w.heap.size w w2) := HB1.out.trans (hB2.mono HB1.out.size)
    have HGt := hide (get_any P N T s _ w2 sb lb lcap mv tb tt iv HK.out (HT.out.step hB2))
    clear hB2 HT
    go_wp2_with fail
    refine HGt.out.mono ?_
    rintro e w3 ⟨t, b, rfl, hR, hB3⟩
    have HR := hide hR
    have HB3 : Hid (Below w.heap.size w w3) := HB2.out.trans (hB3.mono HB2.out.size)
    clear hR hB3
    go_wp2_with fail
    go_ret2
    exact ⟨_, _, rfl, HR.out, HB3.out⟩

set_option maxHeartbeats 1000000 in
theorem l32At_any (N : List Pn) (pv nv : Value) (s : ByteArray) (w : World) (lo hi : Nat) (hpv : ∃ a n c, pv = .slice a n c) (hn : RcsAt fPn w lo hi nv N) (hhi : hi ≤ w.heap.size) :
    Calls Tryd.prog 17 #[.agg #[pv, nv], .string s] w fun e w' => ((e = .returned (.int .i64 (-1)) ∧ ∀ (i : Nat) (h : i < N.length), N[i].name ≠ s) ∨ (∃ (i : Nat) (h : i < N.length), e = .returned (.int .i64 (i : Int)) ∧ N[i].name = s)) ∧ Below w.heap.size w w' := by
  obtain ⟨pa, pn, pc, rfl⟩ := hpv
  obtain ⟨a, cap, rfl, hl, hc⟩ := hn
  unfold maxLen at hl
  go_enter Tryd.func17, Tryd.ntmps17
  go_wp2
  go_loopw [5] (fun i wr => ∃ (k : Nat), k ≤ N.length ∧ i = .int .i64 k ∧ Hid (∀ (j : Nat) (h : j < N.length), j < k → N[j].name ≠ s) ∧ Hid (Below w.heap.size w wr ∧ Blk wr w.heap.size #[.slice pa pn pc, .slice a N.length cap] 32)) (fun i _ => N.length - (intOf i).toNat)
  case atStart => exact ⟨0, Nat.zero_le _, rfl, fun j _ h => by omega, (Below.refl _ _).alloc (Nat.le_refl _) _, Blk.new w _ _⟩
  case round =>
    obtain ⟨k, hk, rfl, HK, HB⟩ := hrel
    have x1 := HB.out.2.cell 1 _ rfl
    by_cases hlt : k < N.length
    · obtain ⟨b, o, rfl, _, hb2, hcell⟩ := hc (by omega)
      obtain ⟨c0, c1, c2⟩ := hcell k hlt
      rw [← HB.out.1.cell (p := ⟨b, _, none⟩) (by show b < w.heap.size; omega)] at c0 c1 c2
      simp only [fPn] at c0 c1 c2
      have hltI : (k : Int) < (N.length : Int) := by omega
      clear hc hcell
      by_cases he : N[k].name = s
      · have heq : (N[k].name.toList == s.toList) = true := by rw [he]; simp
        have HE := hide he
        clear he
        go_wp2_with fail
        go_ret
        exact ⟨.inr ⟨k, hlt, rfl, HE.out⟩, HB.out.1⟩
      · have heq : (N[k].name.toList == s.toList) = false := by rw [beq_eq_false_iff_ne]; exact fun h => he (toList_inj h)
        have HE := hide he
        clear he
        go_wp2_with fail
        go_roundw
        case rel =>
          refine ⟨k + 1, by omega, by go_num, fun j hj hjk => ?_, HB⟩
          by_cases e : j = k
          · subst e; exact HE.out
          · exact HK.out j hj (by omega)
        case measure => simp [intOf]; omega
    · clear hc
      go_wp2_with fail
      go_ret
      exact ⟨.inl ⟨rfl, fun j hj => HK.out j hj (by omega)⟩, HB.out.1⟩

end Go.Proofs.YtnahpghbodmdbaaDoor
