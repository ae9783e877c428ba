/- TreeAt, the specification's and the program's: what they give. -/
import Derived.Test.YtnfidecbbijpfaaProg
import Derived.Test.YtnfidecbbijpfaaAt
import Derived.Test.YtnfidecbbijpfaaRoot
namespace Go.Proofs.Ytnfidecbbijpfaa
open Go.RowKit

theorem atT_ind (P : (n : Nat) → T n → Prop) (hP : ∀ (n : Nat) (t : T (n + 1)), P (n + 1) t → ∀ (i : Nat) (h : i < t.kids.length), P n t.kids[i]) :
    ∀ (n : Nat) (t : T n) (path : List ByteArray) (m : Nat) (u : T m), P n t → atT n t path = some ⟨m, u⟩ → P m u
  | 0, t, _, _, _, _, _ => Empty.elim (show Empty from t)
  | n + 1, t, [], m, u, h, e => by
    rw [atT] at e
    cases e
    exact h
  | n + 1, t, s :: r, m, u, h, e => by
    rw [atT] at e
    split at e
    · cases e
    · rename_i i _
      split at e
      · cases e
      · rename_i k hk
        obtain ⟨hi, rfl⟩ := List.getElem?_eq_some_iff.1 hk
        exact atT_ind P hP n _ r m u (hP n t h i hi) e

theorem at_sm {n : Nat} {t : T n} {path : List ByteArray} (h : Sm n t) : Sm (orZero (atT n t path)).1 (orZero (atT n t path)).2 := by
  cases e : atT n t path with
  | none => exact ⟨Nat.zero_le _, Nat.zero_le _, fun i h => (Nat.not_lt_zero i h).elim⟩
  | some x =>
    obtain ⟨m, u⟩ := x
    exact atT_ind Sm (fun _ _ h i hi => h.2.2 i hi) n t path m u h e
theorem at_count {n : Nat} {t : T n} {path : List ByteArray} {m : Nat} {u : T m} (h : countT n t ≤ 1048576) (e : atT n t path = some ⟨m, u⟩) : countT m u ≤ 1048576 :=
  atT_ind (fun n t => countT n t ≤ 1048576) (fun _ t h i hi => Nat.le_trans (kid_le t i hi) h) n t path m u h e
theorem at_parts {n : Nat} {t : T n} {path : List ByteArray} {m : Nat} {u : T m} {d : Int} (h : partsB n t d = true) (e : atT n t path = some ⟨m, u⟩) : ∃ d', partsB m u d' = true :=
  atT_ind (fun n t => ∃ d', partsB n t d' = true) (fun _ t ⟨d', h⟩ i hi => by
    have h' : (plainB t.dir t.mode t.data t.names t.kids.length && decide (d' ≤ 4) && t.kids.all (fun k => partsB _ k (d' + 1))) = true := h
    rw [Bool.and_eq_true, Bool.and_eq_true] at h'
    exact ⟨d' + 1, List.all_eq_true.1 h'.2 _ (List.getElem_mem hi)⟩) n t path m u ⟨d, h⟩ e

/-- What TreeAt gives: a tree and whether it was there. -/
def resT (n : Nat) (t : T n) (path : List ByteArray) : ((m : Nat) × T m) × Bool := if okT n t then (orZero (atT n t path), (atT n t path).isSome) else (zeroT, false)

set_option maxHeartbeats 2000000 in
set_option maxRecDepth 100000 in
theorem specTreeAt_any (n : Nat) (t : T n) (nv kv : Value) (pa : Option Addr) (pc : Nat) (path : List ByteArray) (w : World) (lo hi lo' hi' : Nat) (hrep : Rep w lo hi n t nv kv) (hpath : StrsAt w lo' hi' (.slice pa path.length pc) path) (hpc : path.length ≤ pc) (hpm : pc ≤ maxLen)
    (hhi : hi ≤ w.heap.size) (hhi' : hi' ≤ w.heap.size) (hcnt : countT n t ≤ 1048576) (hsm : Sm n t) :
    Calls Try.prog 14 #[aggT n t nv kv, .slice pa path.length pc] w fun e w' => ∃ nv' kv', e = .returned (.tuple #[aggT (resT n t path).1.1 (resT n t path).1.2 nv' kv', .bool (resT n t path).2]) ∧ Rep w' w.heap.size w'.heap.size (resT n t path).1.1 (resT n t path).1.2 nv' kv' ∧ Below w.heap.size w w' := by
  obtain ⟨va, vm, vc, ua, um, uc, rfl, rfl⟩ := hrep.slices
  have HOk : Hid (∀ W, Below w.heap.size w W → Calls Try.prog 7 #[.agg #[.bool (headT n t).1, .int .i64 (headT n t).2.1, .string (headT n t).2.2, .slice va vm vc, .slice ua um uc]] W fun e w' => e = .returned (.bool (okT n t)) ∧ Below W.heap.size W w') := fun W hW =>
    specTreeOk_any n t _ _ W lo hi (Rep.keep hW hhi _ _ _ _ hrep) (Nat.le_trans hhi hW.size) hcnt
  have HAt : Hid (okT n t = true → ∀ W, Below w.heap.size w W → Calls Try.prog 28 #[.agg #[.bool (headT n t).1, .int .i64 (headT n t).2.1, .string (headT n t).2.2, .slice va vm vc, .slice ua um uc], .slice pa path.length pc] W fun e w' => ∃ nv' kv', e = .returned (.tuple #[.agg #[.bool (headT (orZero (atT n t path)).1 (orZero (atT n t path)).2).1, .int .i64 (headT (orZero (atT n t path)).1 (orZero (atT n t path)).2).2.1, .string (headT (orZero (atT n t path)).1 (orZero (atT n t path)).2).2.2, nv', kv'], .bool (atT n t path).isSome]) ∧ Rep w' lo hi (orZero (atT n t path)).1 (orZero (atT n t path)).2 nv' kv' ∧ Below W.heap.size W w') := fun hok W hW =>
    at_any n t _ _ pa pc path W lo hi lo' hi' (Rep.keep hW hhi _ _ _ _ hrep) (allGood_of_ok n t hok) (hpath.keep hW hhi') hpc hpm (Nat.le_trans hhi hW.size) (Nat.le_trans hhi' hW.size)
  have HCp : Hid (∀ W nv' kv', Below w.heap.size w W → Rep W lo hi (orZero (atT n t path)).1 (orZero (atT n t path)).2 nv' kv' → Calls Try.prog 29 #[.agg #[.bool (headT (orZero (atT n t path)).1 (orZero (atT n t path)).2).1, .int .i64 (headT (orZero (atT n t path)).1 (orZero (atT n t path)).2).2.1, .string (headT (orZero (atT n t path)).1 (orZero (atT n t path)).2).2.2, nv', kv']] W fun e w' => ∃ nv2 kv2, e = .returned (.agg #[.bool (headT (orZero (atT n t path)).1 (orZero (atT n t path)).2).1, .int .i64 (headT (orZero (atT n t path)).1 (orZero (atT n t path)).2).2.1, .string (headT (orZero (atT n t path)).1 (orZero (atT n t path)).2).2.2, nv2, kv2]) ∧ Own w' (orZero (atT n t path)).1 W.heap.size w'.heap.size (orZero (atT n t path)).2 nv2 kv2 ∧ Below W.heap.size W w') := fun W nv' kv' hW hr =>
    (copy_any _ _ nv' kv' W lo hi hr (Nat.le_trans hhi hW.size) (at_sm hsm))
  have HRt : Hid (okT n t = true → resT n t path = (orZero (atT n t path), (atT n t path).isSome)) := fun h => by rw [resT, if_pos h]
  have HRf : Hid (okT n t = false → resT n t path = (zeroT, false)) := fun h => by rw [resT, if_neg (by rw [h]; decide)]
  clear hrep hpath hcnt hsm
  unfold maxLen at hpm
  generalize resT n t path = res at HRt HRf ⊢
  show Calls Try.prog 14 #[.agg #[.bool (headT n t).1, .int .i64 (headT n t).2.1, .string (headT n t).2.2, .slice va vm vc, .slice ua um uc], .slice pa path.length pc] w _
  generalize atT n t path = at1 at HAt HCp HRt ⊢
  generalize okT n t = ok at HOk HAt HRt HRf ⊢
  generalize (headT n t).1 = hd at HOk HAt ⊢
  generalize (headT n t).2.1 = hm at HOk HAt ⊢
  generalize (headT n t).2.2 = hda at HOk HAt ⊢
  go_enter Try.func14, Try.ntmps14
  go_wp2_with fail
  generalize hW : (w.alloc (Obj.cells #[.bool hd, .int .i64 hm, .string hda, .slice va vm vc, .slice ua um uc] 30)).alloc (Obj.cells #[.bool false, .int .i64 0, .string ⟨#[]⟩, .slice none 0 0, .slice none 0 0] 30) = W
  have HW : Hid (Below w.heap.size w W ∧ W.heap.size = w.heap.size + 2 ∧ Blk W w.heap.size #[.bool hd, .int .i64 hm, .string hda, .slice va vm vc, .slice ua um uc] 30 ∧ Blk W (w.heap.size + 1) zeroCells 30) := by
    subst hW
    exact ⟨((Below.refl _ _).alloc (Nat.le_refl _) _).alloc (by simp) _, by simp, (Blk.new _ _ _).alloc _, Blk.atn (A := zeroCells) (by simp)⟩
  clear hW
  refine (HOk.out W HW.out.1).mono ?_
  rintro e w1 ⟨rfl, hB1⟩
  have HB1 := hide hB1
  have HBw1 : Hid (Below w.heap.size w w1) := HW.out.1.trans (hB1.mono HW.out.1.size)
  have HR1 : Hid (Blk w1 (w.heap.size + 1) zeroCells 30) := HW.out.2.2.2.below hB1 (by have := HW.out.2.1; omega)
  have HX1 : Hid (Blk w1 w.heap.size #[.bool hd, .int .i64 hm, .string hda, .slice va vm vc, .slice ua um uc] 30) := HW.out.2.2.1.below hB1 (by have := HW.out.2.1; omega)
  clear hB1
  cases ok with
  | false =>
    have z0 := HR1.out.cell 0 _ rfl
    have z1 := HR1.out.cell 1 _ rfl
    have z2 := HR1.out.cell 2 _ rfl
    have z3 := HR1.out.cell 3 _ rfl
    have z4 := HR1.out.cell 4 _ rfl
    have u0 := HR1.out.frozen 0
    have u1 := HR1.out.frozen 1
    have u2 := HR1.out.frozen 2
    have u3 := HR1.out.frozen 3
    have u4 := HR1.out.frozen 4
    go_wp2_with fail
    refine bodyPost_ret (v := .tuple #[.agg zeroCells, .bool false]) (by simp [results, Try.results14, go_sem, z0, z1, z2, z3, z4, zeroCells]) rfl ?_
    rw [HRf.out (by first | rfl | trivial)]
    exact ⟨_, _, rfl, rep_zero _ _ _, set5_below HBw1.out (by omega) _ _ _ _ _ _⟩
  | true =>
    have x0 := HX1.out.cell 0 _ rfl
    have x1 := HX1.out.cell 1 _ rfl
    have x2 := HX1.out.cell 2 _ rfl
    have x3 := HX1.out.cell 3 _ rfl
    have x4 := HX1.out.cell 4 _ rfl
    go_wp2_with fail
    refine (HAt.out (by first | rfl | trivial) w1 HBw1.out).mono ?_
    rintro e w2 ⟨nv2, kv2, rfl, hR2, hB2⟩
    obtain ⟨xa, xm, xc, ya, ym, yc, rfl, rfl⟩ := hR2.slices
    have HR2 := hide hR2
    have HBw2 : Hid (Below w.heap.size w w2) := HBw1.out.trans (hB2.mono HBw1.out.size)
    have HZ2 : Hid (Blk w2 (w.heap.size + 1) zeroCells 30) := HR1.out.below hB2 HR1.out.lt
    clear hB2 hR2 x0 x1 x2 x3 x4
    go_wp2_with fail
    generalize hW3 : w2.alloc (Obj.cells #[.bool (headT (orZero at1).1 (orZero at1).2).1, .int .i64 (headT (orZero at1).1 (orZero at1).2).2.1, .string (headT (orZero at1).1 (orZero at1).2).2.2, .slice xa xm xc, .slice ya ym yc] 30) = W3
    have HW3 : Hid (Below w.heap.size w W3 ∧ Rep W3 lo hi (orZero at1).1 (orZero at1).2 (.slice xa xm xc) (.slice ya ym yc) ∧ Blk W3 (w.heap.size + 1) zeroCells 30) := by
      subst hW3
      exact ⟨HBw2.out.alloc HBw2.out.size _, Rep.keep ((Below.refl w2.heap.size w2).alloc (Nat.le_refl _) _) (Nat.le_trans hhi HBw2.out.size) _ _ _ _ HR2.out, HZ2.out.alloc _⟩
    clear hW3
    refine (HCp.out W3 _ _ HW3.out.1 HW3.out.2.1).mono ?_
    rintro e w4 ⟨nv4, kv4, rfl, hR4, hB4⟩
    obtain ⟨xa', xm', xc', ya', ym', yc', rfl, rfl⟩ := (Own.rep _ _ _ _ _ _ hR4).slices
    have HR4 := hide hR4
    have HBw4 : Hid (Below w.heap.size w w4) := HW3.out.1.trans (hB4.mono HW3.out.1.size)
    have HZ4 : Hid (Blk w4 (w.heap.size + 1) zeroCells 30) := HW3.out.2.2.below hB4 HW3.out.2.2.lt
    have HS4 : Hid (w.heap.size + 1 < W3.heap.size) := HW3.out.2.2.lt
    clear hB4 hR4
    have z0 := HZ4.out.cell 0 _ rfl
    have z1 := HZ4.out.cell 1 _ rfl
    have z2 := HZ4.out.cell 2 _ rfl
    have z3 := HZ4.out.cell 3 _ rfl
    have z4 := HZ4.out.cell 4 _ rfl
    have u0 := HZ4.out.frozen 0
    have u1 := HZ4.out.frozen 1
    have u2 := HZ4.out.frozen 2
    have u3 := HZ4.out.frozen 3
    have u4 := HZ4.out.frozen 4
    go_wp2_with fail
    refine bodyPost_ret (v := .tuple #[.agg #[.bool (headT (orZero at1).1 (orZero at1).2).1, .int .i64 (headT (orZero at1).1 (orZero at1).2).2.1, .string (headT (orZero at1).1 (orZero at1).2).2.2, .slice xa' xm' xc', .slice ya' ym' yc'], .bool at1.isSome]) (by simp [results, Try.results14, go_sem, z0, z1, z2, z3, z4]) rfl ?_
    rw [HRt.out (by first | rfl | trivial)]
    have hs := HS4.out
    refine ⟨_, _, rfl, ?_, set5_below HBw4.out (by omega) _ _ _ _ _ _⟩
    rw [set5_size]
    exact Rep.wide (lo := W3.heap.size) (by omega) (Nat.le_refl _) _ _ _ _ (Own.rep _ _ _ _ _ _ (Own.same _ _ _ _ _ _ (fun k h1 h2 => set5_other _ _ _ _ _ _ _ _ k (by omega)) HR4.out))

theorem own_zero (w : World) (lo hi : Nat) : Own w zeroT.1 lo hi zeroT.2 (.slice none 0 0) (.slice none 0 0) := own_leaf w 0 lo hi false 0 ⟨#[]⟩ none none 0 0 ⟨Nat.zero_le _, by decide⟩

theorem ok_dir {n : Nat} {t : T n} (h : okT n t = true) {w : World} {lo hi b : Nat} (hd : DRepT w lo hi n t b) : PRep w lo hi n t (.iface 45 (.pointer (some ⟨b, 0, none⟩))) := by
  cases n with
  | zero => exact Empty.elim (show Empty from t)
  | succ n =>
    have h' : (t.dir && partsB (n + 1) t 0 && decide (countT (n + 1) t ≤ 30)) = true := h
    rw [Bool.and_eq_true, Bool.and_eq_true] at h'
    exact .inr ⟨h'.1.1, b, rfl, hd⟩
theorem ok_parts {n : Nat} {t : T n} (h : okT n t = true) : partsB n t 0 = true ∧ countT n t ≤ 1048576 := by
  cases n with
  | zero => exact Empty.elim (show Empty from t)
  | succ n =>
    have h' : (t.dir && partsB (n + 1) t 0 && decide (countT (n + 1) t ≤ 30)) = true := h
    rw [Bool.and_eq_true, Bool.and_eq_true] at h'
    have := of_decide_eq_true h'.2
    exact ⟨h'.1.2, by omega⟩

set_option maxHeartbeats 2000000 in
set_option maxRecDepth 100000 in
theorem implTreeAt_any (n : Nat) (t : T n) (nv kv : Value) (pv : Value) (path : List ByteArray) (w : World) (lo hi lo' hi' : Nat) (hrep : Rep w lo hi n t nv kv) (hpath : StrsAt w lo' hi' pv path)
    (hhi : hi ≤ w.heap.size) (hhi' : hi' ≤ w.heap.size) :
    Calls Try.prog 16 #[aggT n t nv kv, pv] w fun e w' => ∃ nv' kv', e = .returned (.tuple #[aggT (resT n t path).1.1 (resT n t path).1.2 nv' kv', .bool (resT n t path).2]) ∧ Own w' (resT n t path).1.1 w.heap.size w'.heap.size (resT n t path).1.2 nv' kv' ∧ Below w.heap.size w w' := by
  obtain ⟨va, vm, vc, ua, um, uc, rfl, rfl⟩ := hrep.slices
  obtain ⟨pa, pc, rfl⟩ : ∃ pa pc, pv = .slice pa path.length pc := by obtain ⟨pa, pc, h, _⟩ := hpath; exact ⟨pa, pc, h⟩
  have HRo : Hid (∀ W, Below w.heap.size w W → Calls Try.prog 25 #[.agg #[.bool (headT n t).1, .int .i64 (headT n t).2.1, .string (headT n t).2.2, .slice va vm vc, .slice ua um uc]] W fun e w' => ∃ po, e = .returned (.tuple #[.pointer po, .bool (okT n t)]) ∧ Below W.heap.size W w' ∧ (okT n t = true → ∃ b, po = some ⟨b, 0, none⟩ ∧ PRep w' W.heap.size w'.heap.size n t (.iface 45 (.pointer (some ⟨b, 0, none⟩))))) := fun W hW =>
    (rootOf_any n t _ _ W lo hi (Rep.keep hW hhi _ _ _ _ hrep) (Nat.le_trans hhi hW.size)).mono fun e w' ⟨po, h1, h2, h3⟩ => ⟨po, h1, h2, fun hok => by obtain ⟨b, hb, hd⟩ := h3 hok; exact ⟨b, hb, ok_dir hok hd⟩⟩
  have HPa : Hid (okT n t = true → ∀ W W0 b, Below w.heap.size w W → PRep W W0 W.heap.size n t (.iface 45 (.pointer (some ⟨b, 0, none⟩))) → Calls Try.prog 30 #[.iface 45 (.pointer (some ⟨b, 0, none⟩)), .slice pa path.length pc] W fun e w' => ∃ pv, e = .returned (.tuple #[pv, .bool (atT n t path).isSome]) ∧ w' = W ∧ (atT n t path = none → pv = .nilIface) ∧ ∀ (m : Nat) (u : T m), atT n t path = some ⟨m, u⟩ → PRep W W0 W.heap.size m u pv) := fun hok W W0 b hW hp =>
    partAt_any n t (allGood_of_ok n t hok) _ path _ W W0 W.heap.size lo' hi' hp (hpath.keep hW hhi')
  have HTr : Hid (okT n t = true → ∀ (m : Nat) (u : T m), atT n t path = some ⟨m, u⟩ → ∀ v W W0, PRep W W0 W.heap.size m u v → Calls Try.prog 31 #[v] W fun e w' => ∃ nv kv, e = .returned (.agg #[.bool (headT m u).1, .int .i64 (headT m u).2.1, .string (headT m u).2.2, nv, kv]) ∧ Own w' m W.heap.size w'.heap.size u nv kv ∧ Below W.heap.size W w') := fun hok m u e v W W0 hp => by
    obtain ⟨h1, h2⟩ := ok_parts hok
    obtain ⟨d', hd'⟩ := at_parts h1 e
    exact treeOf_any m u d' hd' (at_count h2 e) v W W0 W.heap.size hp (Nat.le_refl _)
  have HRt : Hid (okT n t = true → resT n t path = (orZero (atT n t path), (atT n t path).isSome)) := fun h => by rw [resT, if_pos h]
  have HRf : Hid (okT n t = false → resT n t path = (zeroT, false)) := fun h => by rw [resT, if_neg (by rw [h]; decide)]
  clear hrep hpath
  generalize resT n t path = res at HRt HRf ⊢
  show Calls Try.prog 16 #[.agg #[.bool (headT n t).1, .int .i64 (headT n t).2.1, .string (headT n t).2.2, .slice va vm vc, .slice ua um uc], .slice pa path.length pc] w _
  generalize atT n t path = at1 at HPa HTr HRt ⊢
  generalize okT n t = ok at HRo HPa HTr HRt HRf ⊢
  generalize (headT n t).1 = hd at HRo ⊢
  generalize (headT n t).2.1 = hm at HRo ⊢
  generalize (headT n t).2.2 = hda at HRo ⊢
  go_enter Try.func16, Try.ntmps16
  go_wp2_with fail
  generalize hW : (w.alloc (Obj.cells #[.bool hd, .int .i64 hm, .string hda, .slice va vm vc, .slice ua um uc] 30)).alloc (Obj.cells #[.bool false, .int .i64 0, .string ⟨#[]⟩, .slice none 0 0, .slice none 0 0] 30) = W
  have HW : Hid (Below w.heap.size w W ∧ W.heap.size = w.heap.size + 2 ∧ Blk W (w.heap.size + 1) zeroCells 30) := by
    subst hW
    exact ⟨((Below.refl _ _).alloc (Nat.le_refl _) _).alloc (by simp) _, by simp, Blk.atn (A := zeroCells) (by simp)⟩
  clear hW
  refine (HRo.out W HW.out.1).mono ?_
  rintro e w1 ⟨po, rfl, hB1, hD⟩
  have HD := hide hD
  have HB1 := hide hB1
  have HBw1 : Hid (Below w.heap.size w w1) := HW.out.1.trans (hB1.mono HW.out.1.size)
  have HR1 : Hid (Blk w1 (w.heap.size + 1) zeroCells 30) := HW.out.2.2.below hB1 (by have := HW.out.2.1; omega)
  have z0 := HR1.out.cell 0 _ rfl
  have z1 := HR1.out.cell 1 _ rfl
  have z2 := HR1.out.cell 2 _ rfl
  have z3 := HR1.out.cell 3 _ rfl
  have z4 := HR1.out.cell 4 _ rfl
  have u0 := HR1.out.frozen 0
  have u1 := HR1.out.frozen 1
  have u2 := HR1.out.frozen 2
  have u3 := HR1.out.frozen 3
  have u4 := HR1.out.frozen 4
  clear hB1 hD
  cases ok with
  | false =>
    go_wp2_with fail
    refine bodyPost_ret (v := .tuple #[.agg zeroCells, .bool false]) (by simp [results, Try.results16, go_sem, z0, z1, z2, z3, z4, zeroCells]) rfl ?_
    rw [HRf.out (by first | rfl | trivial)]
    exact ⟨_, _, rfl, own_zero _ _ _, set5_below HBw1.out (by omega) _ _ _ _ _ _⟩
  | true =>
    obtain ⟨b, rfl, hP⟩ := HD.out (by first | rfl | trivial)
    have HP := hide hP
    clear hP HD
    go_wp2_with fail
    refine (HPa.out (by first | rfl | trivial) w1 _ b HBw1.out HP.out).mono ?_
    rintro e w2 ⟨pv, rfl, rfl, hno, hyes⟩
    have HNo := hide hno
    have HYes := hide hyes
    clear hno hyes
    cases hat : at1 with
    | none =>
      have hpv := HNo.out hat
      subst hpv
      subst hat
      go_wp2_with fail
      refine bodyPost_ret (v := .tuple #[.agg zeroCells, .bool false]) (by simp [results, Try.results16, go_sem, z0, z1, z2, z3, z4, zeroCells]) rfl ?_
      rw [HRt.out (by first | rfl | trivial)]
      exact ⟨_, _, rfl, own_zero _ _ _, set5_below HBw1.out (by omega) _ _ _ _ _ _⟩
    | some x =>
      obtain ⟨m, u⟩ := x
      have hP2 := HYes.out m u hat
      have HTr2 : Hid (Calls Try.prog 31 #[pv] w2 fun e w' => ∃ nv kv, e = .returned (.agg #[.bool (headT m u).1, .int .i64 (headT m u).2.1, .string (headT m u).2.2, nv, kv]) ∧ Own w' m w2.heap.size w'.heap.size u nv kv ∧ Below w2.heap.size w2 w') := HTr.out (by first | rfl | trivial) m u hat pv w2 _ hP2
      obtain ⟨qu, qb, rfl⟩ := hP2.form
      subst hat
      clear hP2 HNo HYes HTr
      go_wp2_with fail
      refine HTr2.out.mono ?_
      rintro e w3 ⟨nv3, kv3, rfl, hO3, hB3⟩
      obtain ⟨xa', xm', xc', ya', ym', yc', rfl, rfl⟩ := (Own.rep _ _ _ _ _ _ hO3).slices
      have HO3 := hide hO3
      have HBw3 : Hid (Below w.heap.size w w3) := HBw1.out.trans (hB3.mono HBw1.out.size)
      have HZ3 : Hid (Blk w3 (w.heap.size + 1) zeroCells 30) := HR1.out.below hB3 HR1.out.lt
      have HL : Hid (w.heap.size + 1 < w2.heap.size) := HR1.out.lt
      clear hB3 hO3 z0 z1 z2 z3 z4 u0 u1 u2 u3 u4
      have z0 := HZ3.out.cell 0 _ rfl
      have z1 := HZ3.out.cell 1 _ rfl
      have z2 := HZ3.out.cell 2 _ rfl
      have z3 := HZ3.out.cell 3 _ rfl
      have z4 := HZ3.out.cell 4 _ rfl
      have u0 := HZ3.out.frozen 0
      have u1 := HZ3.out.frozen 1
      have u2 := HZ3.out.frozen 2
      have u3 := HZ3.out.frozen 3
      have u4 := HZ3.out.frozen 4
      go_wp2_with fail
      refine bodyPost_ret (v := .tuple #[.agg #[.bool (headT m u).1, .int .i64 (headT m u).2.1, .string (headT m u).2.2, .slice xa' xm' xc', .slice ya' ym' yc'], .bool true]) (by simp [results, Try.results16, go_sem, z0, z1, z2, z3, z4]) rfl ?_
      rw [HRt.out (by first | rfl | trivial)]
      have hs := HL.out
      refine ⟨_, _, rfl, ?_, set5_below HBw3.out (by omega) _ _ _ _ _ _⟩
      rw [set5_size]
      exact own_wide _ m w2.heap.size w3.heap.size _ _ u (.slice xa' xm' xc', .slice ya' ym' yc') (by omega) (Nat.le_refl _) (Own.same _ _ _ _ _ _ (fun k h1 h2 => set5_other _ _ _ _ _ _ _ _ k (by omega)) HO3.out)

end Go.Proofs.Ytnfidecbbijpfaa
