/- strings.Builder's WriteString once more: which blocks it leaves as they are. -/
import Derived.Test.YtblcmnlbapbebaaDoorBld
import Derived.Test.YtblcmnlbapbebaaDoorLow
import Derived.Test.YtblcmnlbapbebaaDoorRf
namespace Go.Proofs.YtblcmnlbapbebaaDoor
open Go.RowKit

/-- A builder at block b, its bytes in a row of its own at or above n0. -/
structure BdK (w : World) (n0 b : Nat) (v : Value) (bs : List Value) : Prop where
  blk : ∃ p, (p = .pointer none ∨ p = .pointer (some ⟨b, 0, none⟩)) ∧ Blk w b #[p, v] 84
  row : w.ownsRow n0 5 1 v bs.length bs
theorem row_ne {w : World} {n0 b n : Nat} {p v v' : Value} {bs : List Value} (h : w.ownsRow n0 5 1 v n bs) (hb : Blk w b #[p, v'] 84) : v.ownBlock ≠ some b := by
  rcases h.2 with ⟨rfl, _⟩ | ⟨g, cap, cur, rfl, _, hh, _⟩
  · simp [Value.ownBlock]
  · intro e
    have e' : g = b := by simpa [Value.ownBlock] using e
    subst e'
    unfold Blk at hb
    rw [hb] at hh
    simp at hh
theorem BdK.fresh (w : World) (n0 : Nat) : BdK (w.alloc (.cells #[.pointer none, .slice none 0 0] 84)) n0 w.heap.size (.slice none 0 0) (Lib.strCells ⟨#[]⟩) := ⟨⟨_, .inl rfl, Blk.new w _ _⟩, World.ownsRow_nil _ _ _ _⟩
theorem BdK.of {w w' : World} {n0 b : Nat} {v : Value} {bs : List Value} (h : BdK w n0 b v bs) (hb : w'.heap[b]? = w.heap[b]?) (hg : ∀ g, v.ownBlock = some g → w'.heap[g]? = w.heap[g]?) : BdK w' n0 b v bs := by
  obtain ⟨⟨p, hp, hk⟩, h1, h2⟩ := h
  refine ⟨⟨p, hp, hb.trans hk⟩, h1, ?_⟩
  rcases h2 with h2 | ⟨g, cap, cur, rfl, h3, h4, h5⟩
  · exact .inl h2
  · exact .inr ⟨g, cap, cur, rfl, h3, (hg g rfl).trans h4, h5⟩
theorem BdK.is {w : World} {n0 b : Nat} {v : Value} {bs : List Value} (h : BdK w n0 b v bs) (hb : b ≤ n0) : IsB b b bs w := by
  obtain ⟨⟨p, hp, hk⟩, hr⟩ := h
  have hne := row_ne hr hk
  have hr' : w.ownsRow b 5 1 v bs.length bs := by
    refine ⟨hr.1, ?_⟩
    rcases hr.2 with h2 | ⟨g, cap, cur, h2, h3, h4⟩
    · exact .inl h2
    · exact .inr ⟨g, cap, cur, h2, by omega, h4⟩
  rcases hp with rfl | rfl
  · exact .inl ⟨Nat.le_refl _, v, hk, hr', hne⟩
  · exact .inr ⟨Nat.le_refl _, v, hk, hr', hne⟩

section
open Go.Lib
variable {P : Program}
/-- Where the row of what append gives lies: where it lay, or in new memory. -/
theorem app_hat (w : World) (base : Nat) (t u ty e : TypeId) (i : TypeInfo) (ht : P.underlying t = some (.slice e)) (hu : P.underlying u = some .string) (hi : P.info? e = some i) (hz : i.zero = some (.int .u8 0)) (hsize : i.size = 1) (hby : i.bytes = 1)
    (v : Value) (n : Nat) (xs : List Value) (hown : w.ownsRow base e 1 v n xs) (s : ByteArray) (h63 : n + s.size ≤ maxLen) (hbytes : n + s.size ≤ 140737488355328) (hbase : base ≤ w.heap.size) :
    ∃ v' w', (Builtin.append_ #[t, u] ty #[v, .string s]).run P w = .ok v' w' ∧ w'.ownsRow base e 1 v' (n + s.size) (xs ++ strCells s) ∧ w.grownBy w' v.ownBlock ∧ (v'.ownBlock = v.ownBlock ∨ ∃ g, v'.ownBlock = some g ∧ w.heap.size ≤ g) := by
  obtain ⟨v', w', hr, h1, h2, _⟩ := run_append_own_string (P := P) w base t u ty e i ht hu hi hz hsize hby v n xs hown s h63 hbytes hbase
  refine ⟨v', w', hr, h1, h2, ?_⟩
  have hsmall : n + s.size ≤ 9223372036854775807 := by simp only [maxLen] at h63; omega
  rcases hown.2 with ⟨rfl, rfl⟩ | ⟨g, cap, cur, rfl, hbg, hg, hnc, hcm, hcs, htake⟩
  · have hx : xs = [] := List.eq_nil_of_length_eq_zero (by simpa using hown.1)
    subst hx
    obtain ⟨v2, w2, hr2, g1, _⟩ := run_append_own_string (P := P) w w.heap.size t u ty e i ht hu hi hz hsize hby (.slice none 0 0) 0 [] (World.ownsRow_nil _ _ _ _) s h63 hbytes (Nat.le_refl _)
    rw [hr] at hr2
    cases hr2
    rcases g1.2 with ⟨e1, _⟩ | ⟨g, cap, cur, e1, e2, _⟩
    · exact .inl (by rw [e1])
    · exact .inr ⟨g, by rw [e1]; rfl, e2⟩
  · by_cases hroom : n + s.size ≤ cap
    · have hr2 := run_append_room_string (P := P) (w := w) t u ty e i ht hu hi hsize g n cap cur hg s hroom (by have hcc : cur.size = cap := (by simpa using hcs); omega)
      rw [hr] at hr2
      cases hr2
      exact .inl rfl
    · have holds : ∀ j u, xs[j]? = some u → w.cell? ((⟨g, 0, none⟩ : Addr).add j) = some u := hown.cells (g := g) rfl
      have hxl : xs.length = n := by simpa using hown.1
      have hr2 := run_append_grow_string (P := P) (w := w) t u ty e i (.int .u8 0) ht hu hi hz ⟨g, 0, none⟩ n cap xs (by rw [hsize]; simpa using hxl) holds s (by omega) (by omega) (by rw [hby]; exact growslice_fits (by omega) (by omega))
      rw [hr] at hr2
      cases hr2
      exact .inr ⟨_, rfl, Nat.le_refl _⟩
theorem wpList_append_str_at {ops : Array Oper} {rest : List Oper} {o : Oper} {a : Act} {Q : Exit → Act → World → Prop} {w : World} (hgd : o.guard = none) (sl x : Operand) (t u : TypeId)
    (ho : o.op = .call { callee := .builtin .append, args := #[sl, x], argTypes := #[t, u] })
    (base : Nat) (e : TypeId) (i : TypeInfo) (ht : P.underlying t = some (.slice e)) (hu : P.underlying u = some .string) (hi : P.info? e = some i) (hz : i.zero = some (.int .u8 0)) (hsize : i.size = 1) (hby : i.bytes = 1)
    (v : Value) (n : Nat) (xs : List Value) (hs : a.eval sl = v) (hown : w.ownsRow base e 1 v n xs) (s : ByteArray) (hx : a.eval x = .string s)
    (h63 : n + s.size ≤ maxLen) (hbytes : n + s.size ≤ 140737488355328) (hbase : base ≤ w.heap.size)
    (h : ∀ v' w', w'.ownsRow base e 1 v' (n + s.size) (xs ++ strCells s) → w.grownBy w' v.ownBlock → (v'.ownBlock = v.ownBlock ∨ ∃ g, v'.ownBlock = some g ∧ w.heap.size ≤ g) → wpList P ops Q rest (a.put o.dst v') w') : wpList P ops Q (o :: rest) a w := by
  refine wpList_plain hgd fun K hK => ?_
  obtain ⟨v', w', hr, h2, h3, h4⟩ := app_hat (P := P) w base t u o.type e i ht hu hi hz hsize hby v n xs hown s h63 hbytes hbase
  unfold Oper.wp execOp
  simp only [ho, resolve, invoke, builtin, Sem.run_bind, Sem.run_pure, Result.andThen_ok, List.map_toArray, List.map_cons, List.map_nil, hs, hx, hr]
  exact hK _ _ (h v' w' h2 h3 h4)
end

set_option maxHeartbeats 2000000 in
theorem writeK_any (n0 b : Nat) (v : Value) (bs : List Value) (s : ByteArray) (w : World) (h : BdK w n0 b v bs) (hlen : bs.length + s.size ≤ 140737488355328) (hn0 : n0 ≤ w.heap.size) :
    Calls Tryd.prog 34 #[.pointer (some ⟨b, 0, none⟩), .string s] w fun e w' => e = .returned (.tuple #[.int .i64 s.size, .nilIface]) ∧ (∃ v', BdK w' n0 b v' (bs ++ Lib.strCells s) ∧ (v'.ownBlock = v.ownBlock ∨ ∃ g, v'.ownBlock = some g ∧ w.heap.size ≤ g)) ∧ Kept (fun k => k ≠ b ∧ v.ownBlock ≠ some k) w w' := by
  obtain ⟨i0, hi, hz0, hz1, hz2⟩ := info_parts b_byte
  obtain ⟨⟨p, hp, hk⟩, hr⟩ := h
  have hcc : Calls Tryd.prog 48 #[.pointer (some ⟨b, 0, none⟩)] w fun e w1 => e = .returned (.tuple #[]) ∧ Blk w1 b #[.pointer (some ⟨b, 0, none⟩), v] 84 ∧ w1.ownsRow n0 5 1 v bs.length bs ∧ Kept (fun k => k ≠ b) w w1 := by
    rcases hp with rfl | rfl
    · refine (copyCheck_fresh b w (hk.cell 0 _ rfl) (by unfold World.shape?; rw [show w.heap[b]? = _ from hk]; rfl) (hk.frozen 0)).mono ?_
      rintro e w' ⟨rfl, rfl⟩
      refine ⟨rfl, hk.set 0 _, ?_, ⟨rfl, rfl, rfl, by simp [World.setCell], fun k _ hn => Below.heap_setCell _ _ _ _ (by show k ≠ b; exact hn)⟩⟩
      refine ⟨hr.1, ?_⟩
      rcases hr.2 with h2 | ⟨g, cap, cur, h2, h3, h4, h5⟩
      · exact .inl h2
      · have hgb : g ≠ b := fun e => row_ne hr hk (by rw [h2, e]; rfl)
        exact .inr ⟨g, cap, cur, h2, h3, (Below.heap_setCell _ _ _ _ (by show g ≠ b; exact hgb)).trans h4, h5⟩
    · refine (copyCheck_used b w (hk.cell 0 _ rfl)).mono ?_
      rintro e w' ⟨rfl, rfl⟩
      exact ⟨rfl, hk, hr, Kept.refl _ _⟩
  have HC := hide hcc
  clear hcc hp hk hr
  go_enter Tryd.func34, Tryd.ntmps34
  go_wp2_with fail
  refine HC.out.mono ?_
  rintro e w1 ⟨rfl, hbk, hown, hk1⟩
  have c0 : w1.cell? ⟨b, 0, none⟩ = some (.pointer (some ⟨b, 0, none⟩)) := hbk.cell 0 _ rfl
  have c1 : w1.cell? ⟨b, 1, none⟩ = some v := hbk.cell 1 _ rfl
  have hs1 := hk1.size
  have hne := row_ne hown hbk
  have HK1 := hide hk1
  clear hk1
  go_wp2_with (at_builtin; refine wpList_append_str_at rfl _ _ 65 9 rfl n0 5 i0 Tryd.underlying65 Tryd.underlying9 hi hz0 hz1 hz2 _ _ _ rfl hown s rfl ?c3 ?c4 ?c5 ?_)
  case c3 => unfold maxLen; omega
  case c4 => omega
  case c5 => omega
  intro v' w2 hown' hgrow hat
  have hb2 : Blk w2 b #[.pointer (some ⟨b, 0, none⟩), v] 84 := (hgrow.block b hbk.lt (fun e => hne e.symm)).trans hbk
  have d0 : w2.cell? ⟨b, 0, none⟩ = some (.pointer (some ⟨b, 0, none⟩)) := hb2.cell 0 _ rfl
  have d1 : w2.cell? ⟨b, 1, none⟩ = some v := hb2.cell 1 _ rfl
  have f1 : w2.frozen? ⟨b, 1, none⟩ = false := hb2.frozen 1
  have hne' := row_ne hown' hb2
  obtain ⟨ao, n', cap, rfl⟩ : ∃ ao n' cap, v' = .slice ao n' cap := by
    rcases hown'.2 with ⟨hv, _⟩ | ⟨g, cap, cur, hv, _⟩
    · exact ⟨_, _, _, hv⟩
    · exact ⟨_, _, _, hv⟩
  have HR : Hid ((∃ v', BdK (w2.setCell ⟨b, 1, none⟩ (.slice ao n' cap)) n0 b v' (bs ++ Lib.strCells s) ∧ (v'.ownBlock = v.ownBlock ∨ ∃ g, v'.ownBlock = some g ∧ w.heap.size ≤ g)) ∧ Kept (fun k => k ≠ b ∧ v.ownBlock ≠ some k) w (w2.setCell ⟨b, 1, none⟩ (.slice ao n' cap))) := by
    refine ⟨⟨.slice ao n' cap, ⟨⟨_, .inr rfl, hb2.set 1 _⟩, ?_⟩, hat.imp id (fun ⟨g, h1, h2⟩ => ⟨g, h1, Nat.le_trans hs1 h2⟩)⟩, ?_⟩
    · refine ⟨by simp, ?_⟩
      rcases hown'.2 with ⟨h2, h3⟩ | ⟨g, cp, cur, h2, h3, h4, h5⟩
      · exact .inl ⟨h2, by simpa [Lib.strCells_length] using h3⟩
      · have hgb : g ≠ b := fun e => hne' (by rw [h2, e]; rfl)
        refine .inr ⟨g, cp, cur, by rw [h2]; simp [Lib.strCells_length], h3, (Below.heap_setCell _ _ _ _ (by show g ≠ b; exact hgb)).trans h4, by simpa [Lib.strCells_length] using h5⟩
    · refine (HK1.out.mono (fun k _ hh => hh.1)).trans (Kept.trans (B := w2) ⟨hgrow.os, hgrow.tape, hgrow.output, hgrow.size, fun k hk hh => hgrow.block k hk (fun e => hh.2 e.symm)⟩ ⟨rfl, rfl, rfl, by simp [World.setCell], fun k _ hh => Below.heap_setCell _ _ _ _ (by show k ≠ b; exact hh.1)⟩)
  clear hown hown' hgrow hb2 hbk
  go_wp2
  go_ret2
  exact ⟨rfl, HR.out.1, HR.out.2⟩

end Go.Proofs.YtblcmnlbapbebaaDoor
