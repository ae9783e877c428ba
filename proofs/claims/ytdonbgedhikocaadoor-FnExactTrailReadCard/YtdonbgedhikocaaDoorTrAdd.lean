/- The trail's add, of a mark that nothing makes needless and that comes behind all that are there. -/
import Derived.Test.YtdonbgedhikocaaDoorTrieP
import Derived.Test.YtdonbgedhikocaaDoorQueH
import Derived.Test.YtdonbgedhikocaaDoorMk0
import Derived.Deep.RegionWith
namespace Go.Proofs.YtdonbgedhikocaaDoor
open Go.RowKit

theorem TQ.retag {w : World} {lo tb c : Nat} {F : Tri} {tag : Tag} {iv : Value} {items : List Value} (M : TQ w lo tb c F tag iv items) {tag' : Tag} (h : ∀ g, g < w.heap.size → tag' g = tag g) : TQ w lo tb c F tag' iv items :=
  ⟨⟨M.m.root, fun p nd hp => (M.m.node p nd hp).keep (Nat.le_refl _) (Nat.le_refl _) rfl (fun _ _ => rfl) (fun _ _ => rfl) h (fun _ _ => rfl) (M.m.node p nd hp).kid, M.m.up, M.m.cap⟩,
   ⟨M.q.c4, M.q.f4, M.q.c5, M.q.ir, fun g hg => by rw [h g (M.q.ir.lt g hg).2]; exact M.q.it g hg, M.q.len, M.q.its, M.q.low⟩⟩

def Put1 (w w' : World) (lo tb c : Nat) (F : Tri) (path : List ByteArray) (sub : Bool) (iv : Value) (items : List Value) (bx : Nat) : Prop :=
  ∃ F' tag', TQ w' lo tb (c + 1) F' tag' iv items ∧ Below lo w w' ∧ getF F' path = (sub, true) ∧ (∀ q, q ≠ path → getF F' q = getF F q) ∧ (∀ q, (F' q).isSome = true → (F q).isSome = true ∨ ∃ j, q = path.take j) ∧ w'.heap[bx]? = w.heap[bx]?
def AddPost (w w' : World) (lo tb c : Nat) (F : Tri) (path : List ByteArray) (sub : Bool) : Prop :=
  ∃ F' tag' iv' items', TQ w' lo tb (c + 1) F' tag' iv' items' ∧ Below lo w w' ∧ getF F' path = (sub, true) ∧ (∀ q, q ≠ path → getF F' q = getF F q) ∧ (∀ q, (F' q).isSome = true → (F q).isSome = true ∨ ∃ j, q = path.take j)

set_option maxHeartbeats 4000000 in
theorem add_any (path : List ByteArray) (sub : Bool) (pa : Option Addr) (pc : Nat) (w : World) (lo tb c : Nat) (F : Tri) (tag : Tag) (iv : Value) (items : List Value) (M : TQ w lo tb c F tag iv items) (hp : StrsAt w 0 lo (.slice pa path.length pc) path) (hpc : path.length ≤ pc) (hl4 : path.length ≤ 1000)
    (hu : underF F path = false) (hm : (getF F path).2 = false) (hno : sub = true → F path = none ∨ (path = [] ∧ F [] = some ⟨tb, false, false, [], .slice none 0 0, .slice none 0 0⟩)) (hlast : Last F path c 0) (hc : c + 1 ≤ 1000) (hit : items.length ≤ c) :
    Calls Tryd.prog 37 #[.pointer (some ⟨tb, 0, none⟩), .agg #[.slice pa path.length pc, .bool sub]] w fun e w' => e = .returned (.tuple #[]) ∧ AddPost w w' lo tb c F path sub := by
  have hlo := M.q.low
  have HA : Hid (Below w.heap.size w (w.alloc (.cells #[.slice pa path.length pc, .bool sub] 31))) := (Below.refl _ _).alloc (Nat.le_refl _) _
  have HT : Hid (TQ (w.alloc (.cells #[.slice pa path.length pc, .bool sub] 31)) lo tb c F (fun g => if g = w.heap.size then (9, []) else tag g) iv items) :=
    (M.retag fun g hg => if_neg (by omega)).below HA.out
  have HS : Hid (StrsAt (w.alloc (.cells #[.slice pa path.length pc, .bool sub] 31)) 0 lo (.slice pa path.length pc) path) := hp.keep HA.out hlo
  have HK := hide (Blk.new w #[.slice pa path.length pc, .bool sub] 31)
  have HZ : Hid ((w.alloc (.cells #[.slice pa path.length pc, .bool sub] 31)).heap.size = w.heap.size + 1) := by show _ = _; simp
  clear M hp
  have hmk : markedF F path = false := by rw [markedF, hm, hu]; rfl
  go_enter Tryd.func37, Tryd.ntmps37
  go_wp2_with fail
  generalize w.alloc (.cells #[.slice pa path.length pc, .bool sub] 31) = W at HA HT HS HK HZ ⊢
  have HLo : Hid (lo ≤ W.heap.size) := by have := HZ.out; show _ ≤ _; omega
  have HLast := hide hlast
  have HU : Hid (∀ V, Below W.heap.size W V → Calls Tryd.prog 36 #[.pointer (some ⟨tb, 0, none⟩), .slice pa path.length pc] V fun e w' => e = .returned (.bool false) ∧ Below W.heap.size W w') := fun V hV => by
    have h := under_any path pa pc V lo tb c F _ 0 lo (HT.out.below hV).m (HS.out.keep hV HLo.out) hpc hl4
    rw [hu] at h
    exact h.mono fun e w' ⟨h1, m, h2⟩ => ⟨h1, by subst h2; exact below_drewN hV _⟩
  have HMk : Hid (∀ V, Below W.heap.size W V → Calls Tryd.prog 47 #[.pointer (some ⟨tb, 0, none⟩), .slice pa path.length pc] V fun e w' => e = .returned (.bool false) ∧ Below W.heap.size W w') := fun V hV => by
    have h := marked_any path pa pc V lo tb c F _ 0 lo (HT.out.below hV).m (HS.out.keep hV HLo.out) hpc hl4
    rw [hmk] at h
    exact h.mono fun e w' ⟨h1, m, h2⟩ => ⟨h1, by subst h2; exact below_drewN hV _⟩
  have HPr : Hid (sub = true → ∀ V, Below W.heap.size W V → Calls Tryd.prog 48 #[.pointer (some ⟨tb, 0, none⟩), .slice pa path.length pc] V fun e w' => e = .returned (.tuple #[]) ∧ Below W.heap.size W w') := fun hs V hV =>
    by
      rcases hno hs with h | ⟨h, h'⟩
      · exact (prune_none path _ V lo tb c F _ 0 lo (HT.out.below hV).m (HS.out.keep hV HLo.out) h).mono fun e w' ⟨h1, h2⟩ => ⟨h1, by subst h2; exact hV⟩
      · have hS := HS.out.keep hV HLo.out
        have h0 : path.length = 0 := by rw [h]; rfl
        exact (prune_zero (.slice pa path.length pc) V lo tb c F _ 0 lo (HT.out.below hV).m (by rw [h] at hS ⊢; exact hS) h').mono fun e w' ⟨h1, h2⟩ => ⟨h1, hV.trans (h2.mono hV.size)⟩
  clear hlast hu hm hmk hno
  refine (HU.out W (Below.refl _ _)).mono ?_
  rintro e w1 ⟨rfl, hB1⟩
  have HB1 := hide hB1
  have x0 := (HK.out.below hB1 (by have := HZ.out; omega)).cell 0 _ rfl
  have x1 := (HK.out.below hB1 (by have := HZ.out; omega)).cell 1 _ rfl
  clear hB1 HU
  cases sub with
  | false =>
    go_wp2_with fail
    refine (HMk.out w1 HB1.out).mono ?_
    rintro e w2 ⟨rfl, hB2⟩
    have HB2 := hide hB2
    have y0 := (HK.out.below hB2 (by have := HZ.out; omega)).cell 0 _ rfl
    have y1 := (HK.out.below hB2 (by have := HZ.out; omega)).cell 1 _ rfl
    clear hB2 HMk HPr
    have HP : Hid (∀ V, Below W.heap.size W V → Calls Tryd.prog 49 #[.pointer (some ⟨tb, 0, none⟩), .slice pa path.length pc, .bool false] V fun e w' => e = .returned (.tuple #[]) ∧ Put1 V w' lo tb c F path false iv items w.heap.size) := fun V hV => (put_any path _ false V lo tb c F _ iv items (HT.out.below hV) (HS.out.keep hV HLo.out) hc HLast.out).mono fun e w' ⟨h1, F', tag', h2, h3, h4, h5, h6, h7⟩ => ⟨h1, F', tag', h2, h3, h4, h5, h6, h7 _ (by have := hV.size; have := HZ.out; omega) (by simp)⟩
    go_wp2_with fail
    go_region_with (go_at_call 49; refine (HP.out _ (by first | exact HB2.out.drew | exact HB2.out)).mono ?_; rintro e w5 ⟨rfl, hP5⟩; have HP5 := hide hP5; clear hP5)
    all_goals
      obtain ⟨F5, tag5, hT5, hB5', hg5, ho5, hf5, hk5⟩ := HP5.out
      have hB5 : Below lo w2 w5 := by first | exact hB5' | exact undrewB hB5'
      have HR5 := hide (And.intro hT5 (And.intro hB5 (And.intro hg5 (And.intro ho5 hf5))))
      have HK5 : Hid (Blk w5 w.heap.size #[.slice pa path.length pc, .bool false] 31) := by have h := HK.out.below HB2.out (by have := HZ.out; omega); exact hk5.trans h
      have z0 := HK5.out.cell 0 _ rfl
      have z1 := HK5.out.cell 1 _ rfl
      have HQ5 : Hid (∀ V, Below w5.heap.size w5 V → Calls Tryd.prog 50 #[.pointer (some ⟨tb, 4, none⟩), .slice pa path.length pc] V fun e w' => e = .returned (.tuple #[]) ∧ AddPost w w' lo tb c F path false) := fun V hV =>
        (qPut_any V lo tb (c + 1) F5 tag5 iv items pa pc path (HR5.out.1.below hV) ((HS.out.keep HB2.out HLo.out).keep (HR5.out.2.1.trans (hV.mono HR5.out.1.q.low)) (Nat.le_refl _)) (by omega)).mono fun e w' ⟨h1, tag', iv', items', h2, _, h3⟩ => ⟨h1, F5, tag', iv', items', h2, (((HA.out.mono hlo).trans (HB2.out.mono HLo.out)).trans HR5.out.2.1).trans ((hV.mono HR5.out.1.q.low).trans h3), HR5.out.2.2⟩
      clear hT5 hB5 hB5' hg5 ho5 hf5 hk5 x0 x1 y0 y1
      go_wp2_with fail
      go_region_with (go_at_call 50; refine (HQ5.out _ (by first | exact (Below.refl _ _).drew | exact Below.refl _ _)).mono ?_; rintro e w6 ⟨rfl, hP6⟩; have HP6 := hide hP6; clear hP6)
      all_goals
        go_wp2_with fail
        go_end0
        exact ⟨rfl, HP6.out⟩
  | true =>
    have HPq := hide (HPr.out rfl)
    clear HPr
    have hne : Nonempty (Wd (Below W.heap.size W)) := ⟨⟨w1, HB1.out⟩⟩
    have v0 : ∀ x : Wd (Below W.heap.size W), x.w.cell? ⟨w.heap.size, 0, none⟩ = some (.slice pa path.length pc) := fun x => (HK.out.below x.h (by have := HZ.out; omega)).cell 0 _ rfl
    go_wp2_with fail
    refine wp_region_own (Below W.heap.size W) (by kernel_rfl) (by kernel_rfl) HB1.out.drew ?_
    repeat (go_big_quiet_step ((go_at_call 48; exact own_call (HPq.out _ (Wd.h _)))))
    refine wpQuiet_nil ?_
    intro w2 hB2
    have HB2 := hide hB2
    have y0 := (HK.out.below hB2 (by have := HZ.out; omega)).cell 0 _ rfl
    have y1 := (HK.out.below hB2 (by have := HZ.out; omega)).cell 1 _ rfl
    clear hB2 HMk HPq v0
    have HP : Hid (∀ V, Below W.heap.size W V → Calls Tryd.prog 49 #[.pointer (some ⟨tb, 0, none⟩), .slice pa path.length pc, .bool true] V fun e w' => e = .returned (.tuple #[]) ∧ Put1 V w' lo tb c F path true iv items w.heap.size) := fun V hV => (put_any path _ true V lo tb c F _ iv items (HT.out.below hV) (HS.out.keep hV HLo.out) hc HLast.out).mono fun e w' ⟨h1, F', tag', h2, h3, h4, h5, h6, h7⟩ => ⟨h1, F', tag', h2, h3, h4, h5, h6, h7 _ (by have := hV.size; have := HZ.out; omega) (by simp)⟩
    go_wp2_with fail
    go_region_with (go_at_call 49; refine (HP.out _ (by first | exact HB2.out.drew | exact HB2.out)).mono ?_; rintro e w5 ⟨rfl, hP5⟩; have HP5 := hide hP5; clear hP5)
    all_goals
      obtain ⟨F5, tag5, hT5, hB5', hg5, ho5, hf5, hk5⟩ := HP5.out
      have hB5 : Below lo w2 w5 := by first | exact hB5' | exact undrewB hB5'
      have HR5 := hide (And.intro hT5 (And.intro hB5 (And.intro hg5 (And.intro ho5 hf5))))
      have HK5 : Hid (Blk w5 w.heap.size #[.slice pa path.length pc, .bool true] 31) := by have h := HK.out.below HB2.out (by have := HZ.out; omega); exact hk5.trans h
      have z0 := HK5.out.cell 0 _ rfl
      have z1 := HK5.out.cell 1 _ rfl
      have HQ5 : Hid (∀ V, Below w5.heap.size w5 V → Calls Tryd.prog 50 #[.pointer (some ⟨tb, 4, none⟩), .slice pa path.length pc] V fun e w' => e = .returned (.tuple #[]) ∧ AddPost w w' lo tb c F path true) := fun V hV =>
        (qPut_any V lo tb (c + 1) F5 tag5 iv items pa pc path (HR5.out.1.below hV) ((HS.out.keep HB2.out HLo.out).keep (HR5.out.2.1.trans (hV.mono HR5.out.1.q.low)) (Nat.le_refl _)) (by omega)).mono fun e w' ⟨h1, tag', iv', items', h2, _, h3⟩ => ⟨h1, F5, tag', iv', items', h2, (((HA.out.mono hlo).trans (HB2.out.mono HLo.out)).trans HR5.out.2.1).trans ((hV.mono HR5.out.1.q.low).trans h3), HR5.out.2.2⟩
      clear hT5 hB5 hB5' hg5 ho5 hf5 hk5 x0 x1 y0 y1
      go_wp2_with fail
      go_region_with (go_at_call 50; refine (HQ5.out _ (by first | exact (Below.refl _ _).drew | exact Below.refl _ _)).mono ?_; rintro e w6 ⟨rfl, hP6⟩; have HP6 := hide hP6; clear hP6)
      all_goals
        go_wp2_with fail
        go_end0
        exact ⟨rfl, HP6.out⟩

end Go.Proofs.YtdonbgedhikocaaDoor
