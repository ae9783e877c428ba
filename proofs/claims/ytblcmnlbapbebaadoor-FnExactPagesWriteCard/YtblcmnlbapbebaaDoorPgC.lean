/- slices.Clone of pages. -/
import Derived.Test.YtblcmnlbapbebaaDoorPgs
import Derived.Test.YtblcmnlbapbebaaDoorQt
import Derived.Deep.AppendLies
import Derived.Deep.RegionWith
import Derived.Lib.OthersKept
namespace Go.Proofs.YtblcmnlbapbebaaDoor
open Go.RowKit

def zPage : Array Value := #[.bool false, .string ⟨#[]⟩, .int .i64 0]
theorem info_page : ∃ i, Tryd.prog.info? 64 = some i ∧ i.zero = some (.agg zPage) ∧ i.size = 3 ∧ i.bytes = 32 := by
  obtain ⟨i, hi, h⟩ := Option.map_eq_some_iff.1 (show (Tryd.prog.info? 64).map (fun i => (i.zero, i.size, i.bytes)) = some (some (.agg zPage), 3, 32) by kernel_rfl)
  simp only [Prod.mk.injEq] at h
  exact ⟨i, hi, h.1, h.2.1, h.2.2⟩
theorem rcs_news {α : Type} {f : α → V3} {w : World} {b o : Nat} {l : List α} (hcell : ∀ (i : Nat) (h : i < l.length), w.cell? ⟨b, o + i * 3, none⟩ = some (f l[i]).1 ∧ w.cell? ⟨b, o + i * 3 + 1, none⟩ = some (f l[i]).2.1 ∧ w.cell? ⟨b, o + i * 3 + 2, none⟩ = some (f l[i]).2.2)
    (j : Nat) (u : Value) (hu : (flat3 f l)[j]? = some u) : w.cell? ((⟨b, o, none⟩ : Addr).add j) = some u := by
  have e : Addr.add ⟨b, o, none⟩ j = ⟨b, o + j, none⟩ := by unfold Addr.add; split <;> simp_all
  rw [e]
  by_cases hj : j / 3 < l.length
  · obtain ⟨x0, x1, x2⟩ := flat3_at f l (j / 3) hj
    obtain ⟨c0, c1, c2⟩ := hcell (j / 3) hj
    rcases (by omega : j = j / 3 * 3 ∨ j = j / 3 * 3 + 1 ∨ j = j / 3 * 3 + 2) with h | h | h
    · rw [← h] at x0 c0
      rw [hu] at x0; cases x0; exact c0
    · rw [← h] at x1
      have e2 : o + j = o + j / 3 * 3 + 1 := by omega
      rw [hu] at x1; cases x1; rw [e2]; exact c1
    · rw [← h] at x2
      have e2 : o + j = o + j / 3 * 3 + 2 := by omega
      rw [hu] at x2; cases x2; rw [e2]; exact c2
  · rw [List.getElem?_eq_none (by rw [flat3_length]; omega)] at hu; cases hu
theorem own_none_s {w : World} {base b size : Nat} {e : TypeId} (h : Blk w b #[] e) (hb : base ≤ b) : w.ownsRow base e size (.slice (some ⟨b, 0, none⟩) 0 0) 0 [] :=
  ⟨by simp, .inr ⟨b, 0, #[], rfl, hb, h, by simp, by unfold maxLen; omega, by simp, by simp⟩⟩
theorem flat_oneP (l : List Pg) : ∀ u ∈ flat3 fPg l, u.oneCell' = true := fun u hu => by
  obtain ⟨p, _, h⟩ := List.mem_flatMap.1 hu
  simp only [fPg, List.mem_cons, List.not_mem_nil, or_false] at h
  rcases h with rfl | rfl | rfl <;> simp [Value.oneCell']

set_option maxHeartbeats 1000000 in
theorem clonePg_any (P : List Pg) (v : Value) (w : World) (lo hi : Nat) (hv : RcsAt fPg w lo hi v P) (hhi : hi ≤ w.heap.size) (h0 : 0 < P.length) (hl : P.length ≤ 1048576) :
    Calls Tryd.prog 29 #[v] w fun e w' => ∃ g c, e = .returned (.slice (some ⟨g, 0, none⟩) P.length c) ∧ w'.ownsRow w.heap.size 64 3 (.slice (some ⟨g, 0, none⟩) P.length c) P.length (flat3 fPg P) ∧ Below w.heap.size w w' := by
  obtain ⟨a, cap, rfl, _, hc⟩ := hv
  obtain ⟨b, o, rfl, _, hb2, hcell⟩ := hc h0
  obtain ⟨iS, hiS', hzS, hsS, hbS⟩ := info_page
  have hiS := hide hiS'
  have HC : Hid (∀ o1, ∀ j u, (flat3 fPg P)[j]? = some u → (w.alloc o1).cell? ((⟨b, o, none⟩ : Addr).add j) = some u) := fun o1 j u hu => by
    rw [World.cell?_alloc_old _ _ _ (by unfold Addr.add; split <;> (show b ≠ _; omega))]; exact rcs_news hcell j u hu
  have HBe : Hid (Blk (w.alloc (.cells #[] 64)) w.heap.size #[] 64) := Blk.new _ _ _
  have HOne := hide (flat_oneP P)
  have HLen : Hid ((flat3 fPg P).length = P.length * 3) := flat3_length fPg P
  have hnq : ∀ W : World, (binOp .eql 28 (.slice (some ⟨b, o, none⟩) P.length cap) (.slice none 0 0)).run Tryd.prog W = .ok (.bool false) W := fun W => Lib.run_eql_slice_nil W 28 64 _ _ _ _ _ Tryd.underlying28
  generalize flat3 fPg P = fl at *
  clear hiS' hcell hc
  go_enter Tryd.func29, Tryd.ntmps29
  go_wp2_with (at_builtin; refine wpList_append_own_at _ rfl _ _ 28 rfl w.heap.size 64 iS (.agg zPage) 3 32 Tryd.underlying28 hiS.out hzS hsS hbS rfl (by decide) (.slice (some ⟨w.heap.size, 0, none⟩) 0 0) 0 [] rfl (own_none_s HBe.out (Nat.le_refl _)) ⟨b, o, none⟩ P.length cap fl rfl HLen.out (HC.out _) HOne.out (by unfold maxLen; omega) (by omega) (by simp) ?_; intro v' w1 hown hgrow hnil hat; have HOWN := hide hown; have HGROW := hide hgrow; clear hown hgrow hat hnil)
  go_ret
  have hown : w1.ownsRow w.heap.size 64 3 v' P.length fl := by simpa using HOWN.out
  obtain ⟨g, c, rfl, hg1, hg2⟩ := ownsRow_at hown h0
  exact ⟨g, c, rfl, hown, ((Below.refl _ _).alloc (Nat.le_refl _) _).grown HGROW.out (by simp) (fun k h => by simp [Value.ownBlock] at h; omega)⟩

end Go.Proofs.YtblcmnlbapbebaaDoor
