/- A kept text, by the specification. -/
import Derived.Test.YtblcmnlbapbebaaDoorGtV
import Derived.Test.YtblcmnlbapbebaaDoorPgF
namespace Go.Proofs.YtblcmnlbapbebaaDoor
open Go.RowKit

theorem catP_take (P : List Pg) (c : List Nat) (k : Nat) : (catP P (c.take k)).size ≤ (catP P c).size := by
  have key : ∀ (l : List Nat) (acc : ByteArray), acc.size ≤ (l.foldl (fun acc a => acc ++ dataAt P a) acc).size := by
    intro l
    induction l with
    | nil => intro acc; exact Nat.le_refl _
    | cons a l ih =>
      intro acc
      rw [List.foldl_cons]
      exact Nat.le_trans (by rw [ByteArray.size_append]; omega) (ih _)
  have e : catP P c = (c.drop k).foldl (fun acc a => acc ++ dataAt P a) (catP P (c.take k)) := by
    conv => lhs; rw [← List.take_append_drop k c]
    unfold catP
    rw [List.foldl_append]
  rw [e]
  exact key _ _

set_option maxHeartbeats 2000000 in
theorem l32Text_any (P : List Pg) (N : List Pn) (pv nv : Value) (pos m : Nat) (c : List Nat) (e0 : Int) (w : World) (lo hi : Nat) (hp : RcsAt fPg w lo hi pv P) (hn : RcsAt fPn w lo hi nv N) (hhi : hi ≤ w.heap.size) (hP : P.length = 96) (hN : N.length ≤ 16)
    (hs : ∀ (i : Nat) (h : i < P.length), P[i].data.size ≤ maxLen) (hpos : pos < N.length) (hm : N[pos].size = (m : Int)) (hm2 : m ≤ 3000) (hch : chainV P N[pos].first m = some (c, e0)) :
    Calls Tryd.prog 12 #[.agg #[pv, nv], .int .i64 (pos : Int)] w fun e w' => e = .returned (.string (catP P c)) ∧ Below w.heap.size w w' := by
  have HCh := hide (fun (W : World) (hW : Below w.heap.size w W) => l32Chain_any P pv nv N[pos].name N[pos].first m W lo hi (hp.keep hW hhi) (Nat.le_trans hhi hW.size) hP hm2 hs (by obtain ⟨a, cc, e, _⟩ := hn; exact ⟨_, _, _, e⟩))
  have hce := (chainV_end P m _ m c e0 (Nat.le_refl _) hch).2.2
  have hcl := (chainV_len P m _ m c e0 (Nat.le_refl _) hch).1
  have HTt : Hid (∀ k, (catP P (c.take k)).size ≤ 3000) := fun k => Nat.le_trans (catP_take P c k) (Nat.le_trans (chainV_len P m _ m c e0 (Nat.le_refl _) hch).2 hm2)
  obtain ⟨pa, pcap, rfl, _, hpc⟩ := hp
  obtain ⟨na, ncap, rfl, _, hnc⟩ := hn
  obtain ⟨b, o, rfl, _, hb2, hcell⟩ := hnc (by omega)
  obtain ⟨y0, y1, y2⟩ := hcell pos hpos
  simp only [fPn] at y0 y1 y2
  rw [hm] at y2
  obtain ⟨pb, po, rfl, _, hpb2, hpcell⟩ := hpc (by omega)
  have hposI : (pos : Int) < (N.length : Int) := by omega
  rw [hP] at HCh
  have hpos' := hpos
  have HPc := hide hpcell
  have HCe := hide hce
  have HCl := hide hcl
  have HChv := hide hch
  have HPb : Hid (pb < w.heap.size) := by show _ < _; omega
  have HA : Hid (∀ o, Below w.heap.size w (w.alloc o)) := fun o => (Below.refl _ _).alloc (Nat.le_refl _) o
  have hbl : b < w.heap.size := by omega
  clear hs hm hce hcl hcell hpcell hpc hnc
  generalize N[pos].name = nm at *
  generalize N[pos].first = fst at *
  go_enter Tryd.func12, Tryd.ntmps12
  go_wp2_with fail
  generalize hW : w.alloc (.cells #[.slice (some ⟨pb, po, none⟩) 96 pcap, .slice (some ⟨b, o, none⟩) N.length ncap] 31) = W
  have HW : Hid (Below w.heap.size w W ∧ Blk W w.heap.size #[.slice (some ⟨pb, po, none⟩) 96 pcap, .slice (some ⟨b, o, none⟩) N.length ncap] 31) := by subst hW; exact ⟨HA.out _, Blk.new _ _ _⟩
  have x0 := HW.out.2.cell 0 _ rfl
  have x1 := HW.out.2.cell 1 _ rfl
  rw [← HW.out.1.cell (p := ⟨b, _, none⟩) hbl] at y0 y1 y2
  clear hW HA
  go_region_with (go_at_call 25
                  refine (HCh.out _ (by first | exact HW.out.1.drew | exact HW.out.1)).mono ?_
                  rintro e w1 ⟨oa, on, oc, bb, rfl, hB1, _, hyes⟩
                  obtain ⟨rfl, rfl, hrow⟩ := hyes _ HChv.out
                  have HRow := hide hrow
                  have HB1 := hide hB1
                  clear hrow hyes hB1)
  all_goals
    have HB2 : Hid (Below w.heap.size w w1 ∧ Blk w1 w.heap.size #[.slice (some ⟨pb, po, none⟩) 96 pcap, .slice (some ⟨b, o, none⟩) N.length ncap] 31 ∧ w1.ownsRow W.heap.size 3 1 (.slice oa c.length oc) c.length (natsC c)) := by
      have hb : Below W.heap.size W w1 := by first | exact HB1.out | exact (show Below W.heap.size W W.drew from (Below.refl _ _).drew).trans HB1.out
      refine ⟨?_, ?_, HRow.out⟩
      · exact HW.out.1.trans (hb.mono HW.out.1.size)
      · exact HW.out.2.below hb HW.out.2.lt
    have hc75 : c.length ≤ 75 := by have := HCl.out; omega
    clear x0 x1 y0 y1 y2 HB1 HRow
    go_wp2_with fail
    go_loopw [7, 8] (fun x i wr => ∃ (k : Nat), k ≤ c.length ∧ i = .int .i64 k ∧ x = .string (catP P (c.take k)) ∧ Hid (Below w.heap.size w wr ∧ Blk wr w.heap.size #[.slice (some ⟨pb, po, none⟩) 96 pcap, .slice (some ⟨b, o, none⟩) N.length ncap] 31 ∧ wr.ownsRow W.heap.size 3 1 (.slice oa c.length oc) c.length (natsC c))) (fun _ i _ => c.length - (intOf i).toNat)
    case atStart => exact ⟨0, Nat.zero_le _, rfl, rfl, HB2⟩
    case round =>
      obtain ⟨k, hk, rfl, rfl, HB⟩ := hrel
      have x0 := HB.out.2.1.cell 0 _ rfl
      by_cases hlt : k < c.length
      · have hltI : (k : Int) < (c.length : Int) := by omega
        have hck := HCe.out c[k] (List.getElem_mem hlt)
        obtain ⟨c0, c1, c2⟩ := HPc.out c[k] hck
        rw [← HB.out.1.cell (p := ⟨pb, _, none⟩) HPb.out] at c1
        simp only [fPg] at c1
        obtain ⟨g, hg, hgc⟩ : ∃ g, oa = some ⟨g, 0, none⟩ ∧ wr.cell? ⟨g, k, none⟩ = some (.int .i64 (c[k] : Int)) := by
          have hr := HB.out.2.2
          rcases hr.2 with ⟨_, h0⟩ | ⟨g, cap, cur, he, _⟩
          · omega
          · simp only [Value.slice.injEq] at he
            refine ⟨g, he.1, ?_⟩
            have hr' := hr
            rw [he.1] at hr'
            have := hr'.cells (g := g) rfl k (.int .i64 (c[k] : Int)) (by simp [natsC, hlt])
            have ea : (⟨g, 0, none⟩ : Addr).add k = ⟨g, k, none⟩ := by cases k <;> simp [Addr.add]
            rwa [ea] at this
        subst hg
        have HT : Hid (catP P (c.take (k + 1)) = catP P (c.take k) ++ P[c[k]].data) := by
          show _ = _
          rw [List.take_add_one, List.getElem?_eq_getElem hlt]
          show catP P (c.take k ++ [c[k]]) = _
          rw [catP_snoc, dataAt_get P _ hck]
        have hckI : ((c[k] : Nat) : Int) < 96 := by omega
        have hckN : c[k] < 96 := by omega
        have hsum : ¬ 9223372036854775807 < (catP P (c.take k)).size + P[c[k]].data.size := by
          have := HTt.out (k + 1)
          rw [HT.out, ByteArray.size_append] at this
          omega
        clear c0 c2
        generalize P[c[k]].data = dt at HT c1 hsum
        generalize c[k] = a at hck hckI hckN c1 hgc
        generalize catP P (c.take k) = acc at HT hsum ⊢
        go_wp2_with fail
        go_region
        go_wp2_with fail
        go_roundw
        case rel => exact ⟨k + 1, by omega, by go_num, by rw [HT.out], HB.out.1.drew, HB.out.2.1, HB.out.2.2⟩
        case measure => simp [intOf]; omega
      · go_wp2_with fail
        go_ret
        exact ⟨by rw [List.take_of_length_le (by omega)]; rfl, HB.out.1⟩

end Go.Proofs.YtblcmnlbapbebaaDoor
