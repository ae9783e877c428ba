/- slices.Delete of one kept name (three cells) of a row of one's own. -/
import Derived.Test.YtnahpghbodmdbaaDoorClr3
import Derived.Test.YtnahpghbodmdbaaDoorPgSh
import Derived.Lib.Overlaps
namespace Go.Proofs.YtnahpghbodmdbaaDoor
open Go.RowKit

theorem step_append_run3 {P : Program} {ops : Array Oper} {o : Oper} {a : Act} {w : World} {K : Act → World → Prop} {Q : Exit → Act → World → Prop} {E : Prop} (hgd : o.guard = none) (d s : Operand) (t t' : TypeId)
    (ho : o.op = .call { callee := .builtin .append, args := #[d, s], argTypes := #[t, t'] }) (v u : Value) (hd : a.eval d = v) (hs : a.eval s = u) {v' : Value} {w' : World}
    (hr : (Builtin.append_ #[t, t'] o.type #[v, u]).run P w = .ok v' w') (h : K (a.put o.dst v') w') :
    if Region.wanted o (yielded ops a.tmps) = true then Oper.wp P o a w K Q else E := by
  rw [if_pos (by simp [Region.wanted, hgd])]
  unfold Oper.wp execOp
  simp only [ho, resolve, invoke, builtin, Sem.run_bind, Sem.run_pure, Result.andThen_ok, List.map_toArray, List.map_cons, List.map_nil, hd, hs, hr]
  exact h

/-- The three cells of a name that is nothing. -/
def wipe3 (w : World) (g o : Nat) : World := ((w.setCell ⟨g, o, none⟩ (.string ⟨#[]⟩)).setCell ⟨g, o + 1, none⟩ (.int .i64 0)).setCell ⟨g, o + 2, none⟩ (.int .i64 0)

set_option maxHeartbeats 4000000 in
set_option maxRecDepth 100000 in
theorem delN_del (g n cap pos : Nat) (cur : Array Value) (w : World) (hg : w.heap[g]? = some (.cells cur 68 (0, 0))) (hcs : cur.size = cap * 3) (hone : ∀ v ∈ cur.toList.take (n * 3), v.oneCell' = true) (hpos : pos < n) (hnc : n ≤ cap) (hmax : cap ≤ 9223372036854775807) :
    Calls Tryd.prog 66 #[.slice (some ⟨g, 0, none⟩) n cap, .int .i64 pos, .int .i64 ((pos : Int) + 1)] w fun e w' => e = .returned (.slice (some ⟨g, 0, none⟩) (n - 1) cap) ∧ w.grownBy w' (some g) ∧
      ∃ cur', w'.heap[g]? = some (.cells cur' 68 (0, 0)) ∧ cur'.size = cap * 3 ∧ cur'.toList.take ((n - 1) * 3) = cur.toList.take (pos * 3) ++ (cur.toList.take (n * 3)).drop ((pos + 1) * 3) := by
  obtain ⟨iS, hiS', hzS, hsS, hbS⟩ := info_pname
  have hadd : ∀ (k o j : Nat), (⟨k, o, none⟩ : Addr).add j = ⟨k, o + j, none⟩ := fun k o j => by unfold Addr.add; split <;> simp_all
  have hcell : ∀ j v, cur.toList[j]? = some v → w.cell? ⟨g, j, none⟩ = some v := fun j v h => by simpa [World.cell?, hg] using h
  have hlen : ((cur.toList.take (n * 3)).drop ((pos + 1) * 3)).length = (n - (pos + 1)) * 3 := by rw [List.length_drop, List.length_take]; simp; omega
  have HR : Hid (∀ ty (a : Addr) c, (0 < n - (pos + 1) → a = ⟨g, (pos + 1) * 3, none⟩) → (Builtin.append_ #[30, 30] ty #[.slice (some ⟨g, 0, none⟩) pos cap, .slice (some a) (n - (pos + 1)) c]).run Tryd.prog w.drew = .ok (.slice (some ⟨g, 0, none⟩) (pos + (n - (pos + 1))) cap) (w.drew.setRow g (cur.toList.take (pos * iS.size) ++ (cur.toList.take (n * 3)).drop ((pos + 1) * 3) ++ cur.toList.drop (pos * iS.size + ((cur.toList.take (n * 3)).drop ((pos + 1) * 3)).length)).toArray)) := fun ty a c ha =>
    run_append_room (P := Tryd.prog) w.drew 30 ty 68 iS Tryd.underlying30 hiS' g pos cap cur hg a (n - (pos + 1)) c ((cur.toList.take (n * 3)).drop ((pos + 1) * 3)) (by rw [hlen, hsS])
      (fun j v hj => by
        have hlt : j < (n - (pos + 1)) * 3 := by rw [← hlen]; exact (List.getElem?_eq_some_iff.1 hj).1
        rw [ha (by omega), hadd]
        rw [List.getElem?_drop, List.getElem?_take] at hj
        split at hj
        · exact hcell _ v hj
        · cases hj) (fun v hv => hone v (List.mem_of_mem_drop hv)) (by omega) (by rw [hlen, hsS]; omega)
  rw [hsS, show pos + (n - (pos + 1)) = n - 1 by omega] at HR
  obtain ⟨cur1, hcur1⟩ : ∃ cur1, cur1 = (cur.toList.take (pos * 3) ++ (cur.toList.take (n * 3)).drop ((pos + 1) * 3) ++ cur.toList.drop (pos * 3 + ((cur.toList.take (n * 3)).drop ((pos + 1) * 3)).length)).toArray := ⟨_, rfl⟩
  rw [← hcur1] at HR
  have hz1 : cur1.size = cap * 3 := by rw [hcur1]; simp [hcs]; omega
  have ht1 : cur1.toList.take ((n - 1) * 3) = cur.toList.take (pos * 3) ++ (cur.toList.take (n * 3)).drop ((pos + 1) * 3) := by
    rw [hcur1]
    rw [List.take_append_of_le_length (by simp; omega)]
    exact List.take_of_length_le (by simp; omega)
  have hg1 : (w.drew.setRow g cur1).heap[g]? = some (.cells cur1 68 (0, 0)) := setRow_heap w.drew g cur cur1 68 (0, 0) hg
  have hn1 : n - (n - 1) = 1 := by omega
  have HL : Hid (∀ ty c, (Builtin.clear_ #[30] ty #[.slice (some ⟨g, (n - 1) * 3, none⟩) 1 c]).run Tryd.prog (w.drew.setRow g cur1) = .ok (.tuple #[]) (wipe3 (w.drew.setRow g cur1) g ((n - 1) * 3))) := fun ty c => by
    have h := run_clear_one3 (P := Tryd.prog) (w.drew.setRow g cur1) 30 68 ty (.string ⟨#[]⟩) (.int .i64 0) (.int .i64 0) Tryd.underlying30 (fun w => by kernel_rfl) rfl (by simp [Value.oneCell']) g ((n - 1) * 3) c
      (fun j hj => by
        simp [World.cell?, hg1]
        omega)
      (fun j hj => by simp [World.frozen?, hg1])
    exact h
  have HF : Hid (w.grownBy (wipe3 (w.drew.setRow g cur1) g ((n - 1) * 3)) (some g) ∧ ∃ cur', (wipe3 (w.drew.setRow g cur1) g ((n - 1) * 3)).heap[g]? = some (.cells cur' 68 (0, 0)) ∧ cur'.size = cap * 3 ∧ cur'.toList.take ((n - 1) * 3) = cur.toList.take (pos * 3) ++ (cur.toList.take (n * 3)).drop ((pos + 1) * 3)) := by
    refine ⟨⟨rfl, rfl, rfl, by simp [wipe3, World.setRow, World.setCell], fun k _ hk => ?_⟩, ((cur1.setIfInBounds ((n - 1) * 3) (.string ⟨#[]⟩)).setIfInBounds ((n - 1) * 3 + 1) (.int .i64 0)).setIfInBounds ((n - 1) * 3 + 2) (.int .i64 0), ?_, by simp [hz1], ?_⟩
    · have hk' : k ≠ g := fun e => hk (by rw [e])
      unfold wipe3
      rw [Below.heap_setCell _ _ _ _ hk', Below.heap_setCell _ _ _ _ hk', Below.heap_setCell _ _ _ _ hk', setRow_other _ _ _ _ hk']
      rfl
    · exact heap_setCell_same _ g _ _ _ _ (heap_setCell_same _ g _ _ _ _ (heap_setCell_same _ g _ _ _ _ hg1))
    · rw [Array.toList_setIfInBounds, Array.toList_setIfInBounds, Array.toList_setIfInBounds, List.take_set, List.take_set, List.take_set, ht1]
      rw [List.set_eq_of_length_le (by simp; omega), List.set_eq_of_length_le (by simp; omega), List.set_eq_of_length_le (by simp; omega)]
  have hz3 : ((pos : Int) == (pos : Int) + 1) = false := by rw [beq_eq_false_iff_ne]; omega
  have hb1 : (0 : Int) ≤ (pos : Int) + 1 := by omega
  have htn : ((pos : Int) + 1).toNat = pos + 1 := by omega
  have hb2 : (pos : Int) + 1 ≤ (n : Int) := by omega
  have hb3 : (n : Int) ≤ (cap : Int) := by omega
  have hb4 : (pos : Int) ≤ (pos : Int) + 1 := by omega
  have hb5 : (pos : Int) ≤ (cap : Int) := by omega
  have hb6 : ¬ (n = pos) := by omega
  clear hcur1 ht1 hz1 hg1 hg hone hlen hcell hadd hiS' hzS hsS hbS hcs
  by_cases hcp : cap = pos + 1
  · obtain rfl : n = pos + 1 := by omega
    subst hcp
    simp only [Nat.add_sub_cancel] at HL HF ⊢
    go_enter Tryd.func66, Tryd.ntmps66
    go_wp2_with fail
    go_region_law (refine step_append_run3 rfl _ _ 30 30 rfl _ _ (by simp [Act.eval, Act.put]) (by simp [Act.eval, Act.put]) (HR.out _ ⟨g, 0, none⟩ 0 (fun h => by omega)) ?_)
    go_wp2_with fail
    rw [HL.out]
    simp only [Result.andThen]
    rw [Oper.upon_value]
    go_wp2_with fail
    go_ret
    exact ⟨rfl, HF.out⟩
  · go_enter Tryd.func66, Tryd.ntmps66
    go_wp2_with fail
    go_region_law (refine step_append_run3 rfl _ _ 30 30 rfl _ _ (by simp [Act.eval, Act.put]) (by simp [Act.eval, Act.put]) (HR.out _ ⟨g, (pos + 1) * 3, none⟩ (cap - (pos + 1)) (fun _ => rfl)) ?_)
    go_wp2_with fail
    rw [HL.out]
    simp only [Result.andThen]
    rw [Oper.upon_value]
    go_wp2_with fail
    go_ret
    exact ⟨rfl, HF.out⟩

theorem delN_any (v : Value) (n pos : Nat) (xs : List Value) (w : World) (lo : Nat) (hown : w.ownsRow lo 68 3 v n xs) (hpos : pos < n) (hone : ∀ u ∈ xs, u.oneCell' = true) :
    Calls Tryd.prog 66 #[v, .int .i64 pos, .int .i64 ((pos : Int) + 1)] w fun e w' => ∃ v', e = .returned v' ∧ w'.ownsRow lo 68 3 v' (n - 1) (xs.take (pos * 3) ++ xs.drop ((pos + 1) * 3)) ∧ w.grownBy w' v.ownBlock ∧ v'.ownBlock = v.ownBlock := by
  rcases hown.2 with ⟨_, h0⟩ | ⟨g, cap, cur, rfl, hg1, hg2, hcap, hmax, hcs, htake⟩
  · omega
  · refine (delN_del g n cap pos cur w hg2 hcs (by rw [htake]; exact hone) hpos hcap (by unfold maxLen at hmax; omega)).mono ?_
    rintro e w' ⟨rfl, hgr, cur', hh, h1, h2⟩
    have hxl : xs.length = n * 3 := hown.1
    refine ⟨_, rfl, ⟨by simp; omega, .inr ⟨g, cap, cur', rfl, hg1, hh, by omega, hmax, h1, ?_⟩⟩, hgr, rfl⟩
    rw [h2, htake]
    have e1 : cur.toList.take (pos * 3) = xs.take (pos * 3) := by rw [← htake, List.take_take]; congr 1; omega
    rw [e1]

end Go.Proofs.YtnahpghbodmdbaaDoor
