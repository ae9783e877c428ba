/- The specification's l1At: what is at a path, in the memory of the tree itself. -/
import Derived.Test.YtifbbbgcdklaaaaProg
import Derived.Test.YtifbbbgcdklaaaaFind
import Derived.Deep.RegionHeld3
import Derived.Deep.AppendLies
import Derived.Deep.RegionLaw
import Derived.Deep.Cut
import Derived.Deep.CutRange
namespace Go.Proofs.Ytifbbbgcdklaaaa
open Go.RowKit

def zeroT : (m : Nat) × T m := ⟨1, (⟨false, 0, ⟨#[]⟩, [], []⟩ : Nd (T 0))⟩
def orZero (x : Option ((m : Nat) × T m)) : (m : Nat) × T m := x.getD zeroT

theorem rep_zero (w : World) (lo hi : Nat) : Rep w lo hi zeroT.1 zeroT.2 (.slice none 0 0) (.slice none 0 0) :=
  ⟨by show (0 : Nat) ≤ _; exact Nat.zero_le _, by decide, ⟨none, 0, rfl, Nat.zero_le _, fun i h => (Nat.not_lt_zero i h).elim, fun h => (Nat.not_lt_zero 0 h).elim⟩, ⟨none, 0, rfl, Nat.zero_le _, fun h => (Nat.not_lt_zero 0 h).elim⟩⟩

theorem findI_none {l : List ByteArray} {s : ByteArray} (h : findN l s = none) : findI l s = -1 := by rw [findI, h]
theorem findI_some {l : List ByteArray} {s : ByteArray} {i : Nat} (h : findN l s = some i) : findI l s = i := by rw [findI, h]
theorem findN_lt {l : List ByteArray} {s : ByteArray} {i : Nat} (h : findN l s = some i) : i < l.length := by
  rw [findN, List.findIdx?_eq_some_iff_getElem] at h
  exact h.1

def AtC (n : Nat) : Prop := ∀ (t : T n) (nv kv : Value) (pa : Option Addr) (pc : Nat) (path : List ByteArray) (w : World) (lo hi lo' hi' : Nat), Rep w lo hi n t nv kv → AllGood n t → StrsAt w lo' hi' (.slice pa path.length pc) path → path.length ≤ pc → pc ≤ maxLen → hi ≤ w.heap.size → hi' ≤ w.heap.size →
  Calls Try.prog 21 #[aggT n t nv kv, .slice pa path.length pc] w fun e w' => ∃ nv' kv', e = .returned (.tuple #[aggT (orZero (atT n t path)).1 (orZero (atT n t path)).2 nv' kv', .bool (atT n t path).isSome]) ∧ Rep w' lo hi (orZero (atT n t path)).1 (orZero (atT n t path)).2 nv' kv' ∧ Below w.heap.size w w'

set_option maxHeartbeats 2000000 in
set_option maxRecDepth 100000 in
theorem atC_succ (n : Nat) (ih : AtC n) : AtC (n + 1) := by
  intro t nv kv pa pc path w lo hi lo' hi' hrep hgood hpath hpc hpm hhi hhi'
  have HRep := hide hrep
  obtain ⟨hd, hm, hN, hK⟩ := hrep
  obtain ⟨va, vc, rfl, hN2⟩ := hN
  obtain ⟨ua, uc, rfl, hul, hK2⟩ := hK
  have HK := hide hK2
  have HG := hide hgood
  have HP := hide hpath
  have HI := hide ih
  have HN : Hid (StrsAt w lo hi (.slice va t.names.length vc) t.names) := ⟨va, vc, rfl, hN2⟩
  clear ih hgood hpath hd hm hN2 hK2
  show Calls Try.prog 21 #[.agg #[.bool t.dir, .int .i64 t.mode, .string t.data, .slice va t.names.length vc, .slice ua t.kids.length uc], .slice pa path.length pc] w _
  unfold maxLen at hpm hul
  cases path with
  | nil =>
    go_enter Try.func21, Try.ntmps21
    go_wp2_with fail
    refine bodyPost_ret (v := .tuple #[.agg #[.bool t.dir, .int .i64 t.mode, .string t.data, .slice va t.names.length vc, .slice ua t.kids.length uc], .bool true]) (by simp [results, Try.results21, go_sem]) rfl ?_
    have hb : Below w.heap.size w ((w.alloc (Obj.cells #[.bool t.dir, .int .i64 t.mode, .string t.data, .slice va t.names.length vc, .slice ua t.kids.length uc] 34)).alloc (Obj.cells #[.bool t.dir, .int .i64 t.mode, .string t.data, .slice va t.names.length vc, .slice ua t.kids.length uc] 34)) := ((Below.refl _ _).alloc (Nat.le_refl _) _).alloc (by simp) _
    exact ⟨_, _, rfl, Rep.keep hb hhi _ _ _ _ HRep.out, hb⟩
  | cons s r =>
    have hlen : (s :: r).length = r.length + 1 := rfl
    obtain ⟨pa', pc', he, hpl, hps, hpcell⟩ := HP.out
    obtain ⟨pb, po, hpa, hpb1, hpb2, hpc0⟩ := hpcell (by simp)
    simp only [Value.slice.injEq, true_and] at he
    obtain ⟨rfl, rfl⟩ := he
    subst hpa
    have hc0 : w.cell? ⟨pb, po, none⟩ = some (.string s) := hpc0 0 (by simp)
    have HPS : Hid (StrsAt w lo' hi' (.slice (if pc = 1 then some ⟨pb, po, none⟩ else some ⟨pb, po + 1, none⟩) r.length (pc - 1)) r) := ⟨_, _, rfl, by simp at hpl; omega, fun i hi => hps (i + 1) (by simp; omega), fun h0 => ⟨pb, po + 1, if_neg (by have : r.length + 1 ≤ pc := hpc; omega), hpb1, hpb2, fun i hi => by have := hpc0 (i + 1) (by simp; omega); rw [Nat.add_assoc, Nat.add_comm 1 i]; exact this⟩⟩
    obtain ⟨pa2, hif, HPS⟩ : ∃ pa2, (if pc = 1 then some (⟨pb, po, none⟩ : Addr) else some ⟨pb, po + 1, none⟩) = pa2 ∧ Hid (StrsAt w lo' hi' (.slice pa2 r.length (pc - 1)) r) := ⟨_, rfl, HPS⟩
    clear hpcell hpc0 hps hpl HP
    have hrl : r.length + 1 ≤ pc := hpc
    rw [hlen]
    clear hlen
    have HF : Hid (∀ W, Below w.heap.size w W → Calls Try.prog 37 #[.agg #[.bool t.dir, .int .i64 t.mode, .string t.data, .slice va t.names.length vc, .slice ua t.kids.length uc], .string s] W fun e w' => e = .returned (.int .i64 (findI t.names s)) ∧ Below W.heap.size W w') := fun W hW =>
      l1Find_any _ _ _ t.names _ _ s W lo hi ⟨_, _, _, rfl⟩ (HN.out.keep hW hhi) (Nat.le_trans hhi hW.size)
    go_enter Try.func21, Try.ntmps21
    go_wp2_with fail
    generalize hW : (w.alloc (Obj.cells #[.bool t.dir, .int .i64 t.mode, .string t.data, .slice va t.names.length vc, .slice ua t.kids.length uc] 34)).alloc (Obj.cells #[.bool false, .int .i64 0, .string ⟨#[]⟩, .slice none 0 0, .slice none 0 0] 34) = W
    have HW : Hid (Below w.heap.size w W ∧ W.heap.size = w.heap.size + 2 ∧ Blk W w.heap.size #[.bool t.dir, .int .i64 t.mode, .string t.data, .slice va t.names.length vc, .slice ua t.kids.length uc] 34 ∧ Blk W (w.heap.size + 1) zeroCells 34) := by
      subst hW
      exact ⟨((Below.refl _ _).alloc (Nat.le_refl _) _).alloc (by simp) _, by simp, (Blk.new _ _ _).alloc _, Blk.atn (A := zeroCells) (by simp)⟩
    clear hW
    have x0 := HW.out.2.2.1.cell 0 _ rfl
    have x1 := HW.out.2.2.1.cell 1 _ rfl
    have x2 := HW.out.2.2.1.cell 2 _ rfl
    have x3 := HW.out.2.2.1.cell 3 _ rfl
    have x4 := HW.out.2.2.1.cell 4 _ rfl
    have hcW : W.cell? ⟨pb, po, none⟩ = some (.string s) := (HW.out.1.cell (p := ⟨pb, po, none⟩) (by show pb < w.heap.size; omega)).trans hc0
    go_cut [6] from 11 to 15 (fun x6 wx => x6 = .int .i64 (findI t.names s) ∧ Hid (Below W.heap.size W wx))
    case first =>
      go_region_with (go_at_call 37; refine (HF.out _ (by first | exact HW.out.1.drew | exact HW.out.1)).mono ?_; rintro e1 w1 ⟨rfl, hB1⟩; have HB1 : Hid (Below W.heap.size W w1) := (by first | exact hB1 | exact (Below.refl _ _).drew.trans hB1); clear hB1)
      all_goals
        go_wp2_with fail
        go_meet
        exact ⟨rfl, HB1⟩
    case rest =>
      obtain ⟨rfl, HB⟩ := hcut
      have HBw : Hid (Below w.heap.size w wc) := HW.out.1.trans (HB.out.mono HW.out.1.size)
      have HRes : Hid (Blk wc (w.heap.size + 1) zeroCells 34) := HW.out.2.2.2.below HB.out (by have := HW.out.2.1; omega)
      have HBox : Hid (Blk wc w.heap.size #[.bool t.dir, .int .i64 t.mode, .string t.data, .slice va t.names.length vc, .slice ua t.kids.length uc] 34) := HW.out.2.2.1.below HB.out (by have := HW.out.2.1; omega)
      clear x0 x1 x2 x3 x4 hcW HF
      have z0 := HRes.out.cell 0 _ rfl
      have z1 := HRes.out.cell 1 _ rfl
      have z2 := HRes.out.cell 2 _ rfl
      have z3 := HRes.out.cell 3 _ rfl
      have z4 := HRes.out.cell 4 _ rfl
      have u0 := HRes.out.frozen 0
      have u1 := HRes.out.frozen 1
      have u2 := HRes.out.frozen 2
      have u3 := HRes.out.frozen 3
      have u4 := HRes.out.frozen 4
      have x4 := HBox.out.cell 4 _ rfl
      cases hf : findN t.names s with
      | none =>
        rw [findI_none hf]
        have HA : Hid (atT (n + 1) t (s :: r) = none) := by show _ = _; rw [atT, hf]
        clear hf
        go_wp2_with fail
        refine bodyPost_ret (v := .tuple #[.agg zeroCells, .bool false]) (by simp [results, Try.results21, go_sem, z0, z1, z2, z3, z4, zeroCells]) rfl ?_
        rw [HA.out]
        exact ⟨_, _, rfl, rep_zero _ _ _, set5_below HBw.out (by omega) _ _ _ _ _ _⟩
      | some i =>
        rw [findI_some hf]
        have hi1 := findN_lt hf
        have hi2 : i < t.kids.length := by rw [← HG.out.1.len]; exact hi1
        have HA : Hid (atT (n + 1) t (s :: r) = atT n t.kids[i] r) := by show _ = _; rw [atT, hf]; simp only [List.getElem?_eq_getElem hi2]
        clear hf
        obtain ⟨kb, ko, rfl, hkb1, hkb2, hcell⟩ := HK.out (by omega)
        obtain ⟨knv, kkv, hc0', hc1, hc2, hc3, hc4, hrp⟩ := hcell i hi2
        rw [← HBw.out.cell (p := ⟨kb, _, none⟩) (by show kb < w.heap.size; omega)] at hc0' hc1 hc2 hc3 hc4
        have hiI : (i : Int) < (t.kids.length : Int) := by omega
        obtain ⟨na, nm, nc, ka, km, kc, rfl, rfl⟩ := hrp.slices
        have HC : Hid (∀ W', Below w.heap.size w W' → Calls Try.prog 21 #[.agg #[.bool (headT n t.kids[i]).1, .int .i64 (headT n t.kids[i]).2.1, .string (headT n t.kids[i]).2.2, .slice na nm nc, .slice ka km kc], .slice pa2 r.length (pc - 1)] W' fun e w' => ∃ nv' kv', e = .returned (.tuple #[aggT (orZero (atT n t.kids[i] r)).1 (orZero (atT n t.kids[i] r)).2 nv' kv', .bool (atT n t.kids[i] r).isSome]) ∧ Rep w' lo hi (orZero (atT n t.kids[i] r)).1 (orZero (atT n t.kids[i] r)).2 nv' kv' ∧ Below W'.heap.size W' w') := fun W' hW' =>
          HI.out t.kids[i] _ _ _ _ r W' lo hi lo' hi' (Rep.keep hW' hhi n _ _ _ hrp) (HG.out.2 i hi2) (HPS.out.keep hW' hhi') (by omega) (by unfold maxLen; omega) (Nat.le_trans hhi hW'.size) (Nat.le_trans hhi' hW'.size)
        clear hcell hrp
        generalize hat : atT n t.kids[i] r = at1 at HA HC
        have HAT := hide hat
        clear hat z0 z1 z2 z3 z4 u0 u1 u2 u3 u4
        have hA1 : (1 : Int) ≤ (r.length : Int) + 1 := by omega
        have hA2 : (r.length : Int) + 1 ≤ (pc : Int) := by omega
        have hA3 : (1 : Int) ≤ (pc : Int) := by omega
        go_wp2_with fail
        go_region_with (go_at_call 21; refine (HC.out _ (by first | exact HBw.out.drew | exact HBw.out)).mono ?_; rintro e1 w1 ⟨nv1, kv1, rfl, hR1, hB1⟩; obtain ⟨xa, xm, xc, ya, ym, yc, rfl, rfl⟩ := hR1.slices; have HR1 := hide hR1; have HB1 : Hid (Below wc.heap.size wc w1) := (by first | exact hB1 | exact (Below.refl _ _).drew.trans hB1); have HRes1 : Hid (Blk w1 (w.heap.size + 1) zeroCells 34) := HRes.out.below HB1.out HRes.out.lt; have z0 := HRes1.out.cell 0 _ rfl; have z1 := HRes1.out.cell 1 _ rfl; have z2 := HRes1.out.cell 2 _ rfl; have z3 := HRes1.out.cell 3 _ rfl; have z4 := HRes1.out.cell 4 _ rfl; have u0 := HRes1.out.frozen 0; have u1 := HRes1.out.frozen 1; have u2 := HRes1.out.frozen 2; have u3 := HRes1.out.frozen 3; have u4 := HRes1.out.frozen 4; clear hB1 hR1)
        all_goals
          go_wp2_with fail
          refine bodyPost_ret (v := .tuple #[.agg #[.bool (headT (orZero at1).1 (orZero at1).2).1, .int .i64 (headT (orZero at1).1 (orZero at1).2).2.1, .string (headT (orZero at1).1 (orZero at1).2).2.2, .slice xa xm xc, .slice ya ym yc], .bool at1.isSome]) (by simp [results, Try.results21, go_sem, z0, z1, z2, z3, z4]) rfl ?_
          rw [HA.out]
          have hb1 : Below w.heap.size w w1 := HBw.out.trans (HB1.out.mono HBw.out.size)
          exact ⟨_, _, rfl, Rep.keep (set5_below (Below.refl w.heap.size w1) (by omega) _ _ _ _ _ _) hhi _ _ _ _ HR1.out, set5_below hb1 (by omega) _ _ _ _ _ _⟩

theorem at_any : ∀ n, AtC n
  | 0 => fun t => Empty.elim (show Empty from t)
  | n + 1 => atC_succ n (at_any n)

end Go.Proofs.Ytifbbbgcdklaaaa
