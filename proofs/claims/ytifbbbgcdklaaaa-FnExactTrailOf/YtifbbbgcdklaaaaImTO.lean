/- The program's TrailOf. -/
import Derived.Test.YtifbbbgcdklaaaaLow
import Derived.Test.YtifbbbgcdklaaaaTOB
import Derived.Test.YtifbbbgcdklaaaaKid
import Derived.Test.YtifbbbgcdklaaaaRoot
import Derived.Deep.RegionLaw
namespace Go.Proofs.Ytifbbbgcdklaaaa
open Go.RowKit

/-- What is at the path is a directory. -/
def dirAt (x : Option ((m : Nat) × T m)) : Bool := (headT (orZero x).1 (orZero x).2).1
theorem ta_nil_d (w : World) : Sem.run Try.prog (Instr.typeAssert .nilIface 73 55 true) w = .ok (.tuple #[.pointer none, .bool false]) w := by kernel_rfl

set_option maxHeartbeats 1000000 in
theorem isDir_at (x : Option ((m : Nat) × T m)) (pv : Value) (w : World) (lo hi : Nat) (hnil : x = none → pv = .nilIface) (hrep : ∀ (m : Nat) (u : T m), x = some ⟨m, u⟩ → PRep w lo hi m u pv) (W : World) :
    Calls Try.prog 43 #[pv] W fun e w' => e = .returned (.bool (dirAt x)) ∧ W = w' := by
  have h0 := ta_nil_d
  have h1 := ta_fd
  have h2 := ta_dd
  cases x with
  | none =>
    have hn := hnil rfl
    subst hn
    clear hnil hrep
    go_enter Try.func43, Try.ntmps43
    go_wp2_with fail
    go_ret
    exact ⟨rfl, rfl⟩
  | some x =>
    obtain ⟨m, u⟩ := x
    have hr := hrep m u rfl
    clear hnil hrep
    cases m with
    | zero => exact hr.elim
    | succ m =>
      rcases hr with ⟨hd, b', rfl, _⟩ | ⟨hd, b', rfl, _⟩
      · have HV : Hid (dirAt (some ⟨m + 1, u⟩) = false) := hd
        go_enter Try.func43, Try.ntmps43
        go_wp2_with fail
        go_ret
        exact ⟨by rw [HV.out]; rfl, rfl⟩
      · have HV : Hid (dirAt (some ⟨m + 1, u⟩) = true) := hd
        go_enter Try.func43, Try.ntmps43
        go_wp2_with fail
        go_ret
        exact ⟨by rw [HV.out]; rfl, rfl⟩

/-- What partAt finds at the path, and whether that is a directory, from a world on. -/
def PaD (pw : Value) (dd : Bool) (b : Nat) (w : World) : Prop := ∀ W, Below w.heap.size w W → Calls Try.prog 42 #[.iface 55 (.pointer (some ⟨b, 0, none⟩)), pw] W fun e w' => ∃ pv ob, e = .returned (.tuple #[pv, .bool ob]) ∧ W = w' ∧ ∀ W', Calls Try.prog 43 #[pv] W' fun e w2 => e = .returned (.bool dd) ∧ W' = w2
theorem PaD.next {pw : Value} {dd : Bool} {b : Nat} {w W : World} (h : PaD pw dd b w) (hb : Below w.heap.size w W) : PaD pw dd b W := fun W' hW' => h W' (hb.trans (hW'.mono hb.size))
theorem paD_any (n : Nat) (t : T n) (hg : AllGood n t) (b : Nat) (path : List ByteArray) (pw : Value) (w : World) (lo hi lo' hi' : Nat) (hhi : hi ≤ w.heap.size) (hhi' : hi' ≤ w.heap.size) (hp : PRep w lo hi n t (.iface 55 (.pointer (some ⟨b, 0, none⟩)))) (hpath : StrsAt w lo' hi' pw path) : PaD pw (dirAt (atT n t path)) b w := by
  intro W hW
  refine (partAt_any n t hg _ path pw W lo hi lo' hi' (PRep.same (sameIn_below hW hhi) _ _ _ hp) (hpath.keep hW hhi')).mono ?_
  rintro e w1 ⟨pv, rfl, rfl, hnil, hrep⟩
  exact ⟨pv, _, rfl, rfl, isDir_at _ pv _ lo hi hnil hrep⟩

theorem own_one {W : World} {B g b : Nat} {t : TypeId} {av : Option Addr} {cv : Nat} {path : List ByteArray} {s : Bool} (hg : Blk W g #[.slice av path.length cv, .bool s] t) (hB : B ≤ g) (hs : OwnStrs W B W.heap.size b (.slice av path.length cv) path) (hb : b ≠ g) : OwnMks W B W.heap.size g (fun _ => b) (.slice (some ⟨g, 0, none⟩) 1 1) [⟨path, s⟩] := by
  refine ⟨⟨_, _, rfl, fun _ => rfl⟩, by unfold maxLen; simp, fun _ => ⟨hB, hg.lt⟩, fun i hi => ?_⟩
  match i, hi with
  | 0, _ => exact ⟨⟨hb, fun j hj hne => by simp at hj; omega⟩, av, cv, hg.cell 0 _ rfl, hg.cell 1 _ rfl, hg.frozen 1, hs⟩
theorem own_two {W : World} {B g b c : Nat} {t : TypeId} {av bv : Option Addr} {cv dv : Nat} {path dst : List ByteArray} {s r : Bool} (hg : Blk W g #[.slice av path.length cv, .bool s, .slice bv dst.length dv, .bool r] t) (hB : B ≤ g) (hs : OwnStrs W B W.heap.size b (.slice av path.length cv) path) (hr : OwnStrs W B W.heap.size c (.slice bv dst.length dv) dst) (hb : b ≠ g) (hc : c ≠ g) (hbc : b ≠ c) : OwnMks W B W.heap.size g (fun i => if i = 0 then b else c) (.slice (some ⟨g, 0, none⟩) 2 2) [⟨path, s⟩, ⟨dst, r⟩] := by
  refine ⟨⟨_, _, rfl, fun _ => rfl⟩, by unfold maxLen; simp, fun _ => ⟨hB, hg.lt⟩, fun i hi => ?_⟩
  match i, hi with
  | 0, _ => exact ⟨⟨hb, fun j hj hne => by simp [hne]; omega⟩, av, cv, hg.cell 0 _ rfl, hg.cell 1 _ rfl, hg.frozen 1, hs⟩
  | 1, _ => exact ⟨⟨hc, fun j hj hne => by have : j = 0 := by simp at hj; omega
                                           simp [this, hbc]⟩, bv, dv, hg.cell 2 _ rfl, hg.cell 3 _ rfl, hg.frozen 3, hr⟩
theorem own_noMks (w : World) (lo hi bk : Nat) (bs : Nat → Nat) : OwnMks w lo hi bk bs (.slice none 0 0) [] := ⟨⟨none, 0, rfl, fun h => by simp at h⟩, Nat.zero_le _, fun h => by simp at h, fun i h => by simp at h⟩

theorem ownMks_wide {w : World} {lo hi lo' g : Nat} {bs : Nat → Nat} {v : Value} {l : List Mk} (h : OwnMks w lo hi g bs v l) (hlo : lo' ≤ lo) : OwnMks w lo' hi g bs v l := by
  obtain ⟨h1, h2, h3, h4⟩ := h
  refine ⟨h1, h2, fun hp => ⟨Nat.le_trans hlo (h3 hp).1, (h3 hp).2⟩, fun i hi => ?_⟩
  obtain ⟨k1, av, cv, k2, k3, k4, k5⟩ := h4 i hi
  exact ⟨k1, av, cv, k2, k3, k4, ownStrs_wide k5 hlo (Nat.le_refl _)⟩

/-- The box of the call, and what was below. -/
def MO (w : World) (C : Array Value) (W : World) : Prop := Blk W w.heap.size C 36 ∧ Below w.heap.size w W ∧ w.heap.size + 1 ≤ W.heap.size
theorem MO.next {w W W' : World} {C : Array Value} (h : MO w C W) (hb : Below W.heap.size W W') : MO w C W' :=
  ⟨h.1.below hb h.1.lt, h.2.1.trans (hb.mono h.2.1.size), Nat.le_trans h.2.2 hb.size⟩

set_option maxHeartbeats 2000000 in
theorem marksOf_at (kind : Int) (path dst : List ByteArray) (num : Int) (data : ByteArray) (pa : Option Addr) (pc : Nat) (ta : Option Addr) (tc : Nat) (dd : Bool) (b : Nat) (w : World)
    (hPa : PaD (.slice pa path.length pc) dd b w)
    (hCp : ∀ W, Below w.heap.size w W → Calls Try.prog 41 #[.slice pa path.length pc] W fun e w' => ∃ a c, e = .returned (.slice a path.length c) ∧ OwnStrs w' W.heap.size w'.heap.size W.heap.size (.slice a path.length c) path ∧ Below W.heap.size W w')
    (hCd : ∀ W, Below w.heap.size w W → Calls Try.prog 41 #[.slice ta dst.length tc] W fun e w' => ∃ a c, e = .returned (.slice a dst.length c) ∧ OwnStrs w' W.heap.size w'.heap.size W.heap.size (.slice a dst.length c) dst ∧ Below W.heap.size W w')
    (h1p : 0 < path.length) (hn2 : kind = 5 → 0 < dst.length) :
    Calls Try.prog 26 #[.pointer (some ⟨b, 0, none⟩), .agg #[.int .i64 kind, .slice pa path.length pc, .slice ta dst.length tc, .int .i64 num, .string data]] w fun e w' => ∃ v g bs, e = .returned v ∧
      OwnMks w' w.heap.size w'.heap.size g bs v (if kind = 5 then [⟨path, dd⟩, ⟨dst, dd⟩] else [⟨path, false⟩]) ∧ Below w.heap.size w w' := by
  by_cases hk5 : kind = 5
  · subst hk5
    rw [if_pos rfl]
    have h2p := hn2 rfl
    have HPa := hide hPa
    clear hn2 hPa
    go_enter Try.func26, Try.ntmps26
    go_wp2_with fail
    generalize hW : w.alloc (Obj.cells #[.int .i64 5, .slice pa path.length pc, .slice ta dst.length tc, .int .i64 num, .string data] 36) = w2
    have H2 : Hid (MO w #[.int .i64 5, .slice pa path.length pc, .slice ta dst.length tc, .int .i64 num, .string data] w2) := by
      subst hW
      exact ⟨Blk.new _ _ _, (Below.refl _ _).alloc (Nat.le_refl _) _, by simp⟩
    clear hW
    refine (HPa.out w2 H2.out.2.1).mono ?_
    rintro e w3 ⟨pv, ob, rfl, rfl, hI⟩
    have HI := hide hI
    have x1 := H2.out.1.cell 1 _ rfl
    have x2 := H2.out.1.cell 2 _ rfl
    have HC1 := hide (hCp w2.drew H2.out.2.1.drew)
    clear hI HPa
    go_wp2_with fail
    go_region_law (first
      | (rw [if_pos (by simp [Region.wanted])]; go_simp; go_at_call 43; refine (HI.out _).mono ?_; rintro e w6 ⟨rfl, rfl⟩)
      | (rw [if_pos (by simp [Region.wanted])]; go_simp; go_at_call 41; refine HC2.out.mono ?_; rintro e w5 ⟨a5, c5, rfl, hO5, hB5⟩; have H5 := hide (H4.out.next hB5); have HO5 : Hid (OwnStrs w5 w4.heap.size w5.heap.size w4.heap.size (.slice a5 dst.length c5) dst ∧ w4.heap.size < w5.heap.size ∧ Below w4.heap.size w4 w5) := ⟨hO5, (hO5.2.2.2.1 h2p).2, hB5⟩; clear hO5 hB5)
      | (rw [if_pos (by simp [Region.wanted])]; go_simp; go_at_call 41; refine HC1.out.mono ?_; rintro e w4 ⟨a4, c4, rfl, hO4, hB4⟩; have H4 := hide (H2.out.next (undrewB hB4)); have HO4 : Hid (OwnStrs w4 w2.heap.size w4.heap.size w2.heap.size (.slice a4 path.length c4) path ∧ w2.heap.size < w4.heap.size) := ⟨hO4, (hO4.2.2.2.1 h1p).2⟩; have y2 := H4.out.1.cell 2 _ rfl; have HC2 := hide (hCd w4 H4.out.2.1); clear hO4 hB4))
    all_goals
      go_wp2_with fail
      go_ret
      have hz := H5.out.2.1.size
      have hz4 := H4.out.2.1.size
      have hz3 := H2.out.2.1.size
      obtain ⟨q1, q2⟩ := HO4.out
      obtain ⟨r1, r2, r3⟩ := HO5.out
      have q3 : w5.heap[w2.heap.size]? = w4.heap[w2.heap.size]? := r3.block _ q2
      exact ⟨_, w5.heap.size, fun i => if i = 0 then w2.heap.size else w4.heap.size, rfl, own_two (Blk.new w5 _ _) hz (ownStrs_wide (ownStrs_blk q1 (fun _ => (Lib.alloc_old _ _ _ (by omega)).trans q3)) hz3 (by simp; omega)) (ownStrs_wide (ownStrs_blk r1 (fun _ => Lib.alloc_old _ _ _ r2)) hz4 (by simp)) (by omega) (by omega) (by omega), H5.out.2.1.alloc hz _⟩
  · have hk5' : (kind != 5) = true := by simpa using hk5
    rw [if_neg hk5]
    clear hk5 hn2
    go_enter Try.func26, Try.ntmps26
    go_wp2_with fail
    generalize hW : w.alloc (Obj.cells #[.int .i64 kind, .slice pa path.length pc, .slice ta dst.length tc, .int .i64 num, .string data] 36) = w2
    have H2 : Hid (MO w #[.int .i64 kind, .slice pa path.length pc, .slice ta dst.length tc, .int .i64 num, .string data] w2) := by
      subst hW
      exact ⟨Blk.new _ _ _, (Below.refl _ _).alloc (Nat.le_refl _) _, by simp⟩
    clear hW
    refine (hCp w2 H2.out.2.1).mono ?_
    rintro e w3 ⟨a3, c3, rfl, hO3, hB3⟩
    have HO3 := hide hO3
    have HB3 := hide hB3
    have H3 := hide (H2.out.next hB3)
    clear hO3 hB3
    go_wp2_with fail
    go_ret
    have hz := H3.out.2.1.size
    have hz2 := H2.out.2.1.size
    have hlt : w2.heap.size < w3.heap.size := by have := HO3.out.2.2.2.1 h1p; omega
    exact ⟨_, w3.heap.size, fun _ => w2.heap.size, rfl, own_one (Blk.new w3 _ _) hz (ownStrs_wide (ownStrs_blk HO3.out (fun _ => Lib.alloc_old _ _ _ hlt)) hz2 (by simp)) (by omega), H3.out.2.1.alloc hz _⟩

set_option maxHeartbeats 2000000 in
theorem implTrailOf_at (hd : Bool) (hm : Int) (hda : ByteArray) (va : Option Addr) (vm vc : Nat) (ua : Option Addr) (um uc : Nat) (kind : Int) (path dst : List ByteArray) (num : Int) (data : ByteArray) (pa : Option Addr) (pc : Nat) (ta : Option Addr) (tc : Nat) (ok cb dd : Bool) (res : List Mk) (hres : res = if ok = true ∧ cb = true then if kind = 5 then [⟨path, dd⟩, ⟨dst, dd⟩] else [⟨path, false⟩] else []) (w : World)
    (hRt : ∀ W, Below w.heap.size w W → Calls Try.prog 24 #[.agg #[.bool hd, .int .i64 hm, .string hda, .slice va vm vc, .slice ua um uc]] W fun e w' => ∃ po, e = .returned (.tuple #[.pointer po, .bool ok]) ∧ Below W.heap.size W w' ∧ (ok = true → ∃ b, po = some ⟨b, 0, none⟩ ∧ PaD (.slice pa path.length pc) dd b w'))
    (hCb : ∀ W, Below w.heap.size w W → Calls Try.prog 25 #[.agg #[.int .i64 kind, .slice pa path.length pc, .slice ta dst.length tc, .int .i64 num, .string data]] W fun e w' => e = .returned (.bool cb) ∧ Below W.heap.size W w')
    (hCp : ∀ W, Below w.heap.size w W → Calls Try.prog 41 #[.slice pa path.length pc] W fun e w' => ∃ a c, e = .returned (.slice a path.length c) ∧ OwnStrs w' W.heap.size w'.heap.size W.heap.size (.slice a path.length c) path ∧ Below W.heap.size W w')
    (hCd : ∀ W, Below w.heap.size w W → Calls Try.prog 41 #[.slice ta dst.length tc] W fun e w' => ∃ a c, e = .returned (.slice a dst.length c) ∧ OwnStrs w' W.heap.size w'.heap.size W.heap.size (.slice a dst.length c) dst ∧ Below W.heap.size W w')
    (hn1 : cb = true → 0 < path.length) (hn2 : cb = true → kind = 5 → 0 < dst.length) :
    Calls Try.prog 9 #[.agg #[.bool hd, .int .i64 hm, .string hda, .slice va vm vc, .slice ua um uc], .agg #[.int .i64 kind, .slice pa path.length pc, .slice ta dst.length tc, .int .i64 num, .string data]] w fun e w' => ∃ v g bs, e = .returned v ∧
      OwnMks w' w.heap.size w'.heap.size g bs v res ∧ Below w.heap.size w w' := by
  have HR := hide hres
  clear hres
  go_enter Try.func9, Try.ntmps9
  go_wp2_with fail
  generalize hW : (w.alloc (Obj.cells #[.bool hd, .int .i64 hm, .string hda, .slice va vm vc, .slice ua um uc] 34)).alloc (Obj.cells #[.int .i64 kind, .slice pa path.length pc, .slice ta dst.length tc, .int .i64 num, .string data] 36) = W
  have HW : Hid (TO w #[.bool hd, .int .i64 hm, .string hda, .slice va vm vc, .slice ua um uc] #[.int .i64 kind, .slice pa path.length pc, .slice ta dst.length tc, .int .i64 num, .string data] W) := by
    subst hW
    exact ⟨(Blk.new _ _ _).alloc _, blkAt (by simp), ((Below.refl _ _).alloc (Nat.le_refl _) _).alloc (by simp) _, by simp⟩
  clear hW
  refine (hRt W HW.out.2.2.1).mono ?_
  rintro e w1 ⟨po, rfl, hB1, hdir⟩
  have H1 := hide (HW.out.next hB1)
  have HDir := hide hdir
  clear hB1 HW hRt hdir
  cases ok with
  | false =>
    have hr := HR.out
    rw [if_neg (by simp)] at hr
    subst hr
    go_wp2_with fail
    go_ret
    exact ⟨_, 0, fun _ => 0, rfl, own_noMks _ _ _ _ _, H1.out.2.2.1⟩
  | true =>
    have x0 := H1.out.2.1.cell 0 _ rfl
    have x1 := H1.out.2.1.cell 1 _ rfl
    have x2 := H1.out.2.1.cell 2 _ rfl
    have x3 := H1.out.2.1.cell 3 _ rfl
    have x4 := H1.out.2.1.cell 4 _ rfl
    go_wp2_with fail
    refine (hCb w1 H1.out.2.2.1).mono ?_
    rintro e w2 ⟨rfl, hB2⟩
    have H2 := hide (H1.out.next hB2)
    have HDir2 : Hid (∃ b, po = some ⟨b, 0, none⟩ ∧ PaD (.slice pa path.length pc) dd b w2) := by
      obtain ⟨b, h1, h2⟩ := HDir.out (by first | rfl | trivial)
      exact ⟨b, h1, h2.next hB2⟩
    clear hB2 H1 hCb x0 x1 x2 x3 x4 HDir
    cases cb with
    | false =>
      have hr := HR.out
      rw [if_neg (by simp)] at hr
      subst hr
      go_wp2_with fail
      go_ret
      exact ⟨_, 0, fun _ => 0, rfl, own_noMks _ _ _ _ _, H2.out.2.2.1⟩
    | true =>
      have x0 := H2.out.2.1.cell 0 _ rfl
      have x1 := H2.out.2.1.cell 1 _ rfl
      have x2 := H2.out.2.1.cell 2 _ rfl
      have x3 := H2.out.2.1.cell 3 _ rfl
      have x4 := H2.out.2.1.cell 4 _ rfl
      have hr := HR.out
      rw [if_pos (by simp)] at hr
      have HR2 := hide hr
      obtain ⟨bd, rfl, hpd⟩ := HDir2.out
      have HM := hide (marksOf_at kind path dst num data pa pc ta tc dd bd w2 hpd (fun W hW => hCp W (H2.out.2.2.1.trans (hW.mono H2.out.2.2.1.size))) (fun W hW => hCd W (H2.out.2.2.1.trans (hW.mono H2.out.2.2.1.size))) (hn1 rfl) (hn2 rfl))
      clear HR hr HDir2 hpd hCp hCd hn1 hn2
      go_wp2_with fail
      refine HM.out.mono ?_
      rintro e w3 ⟨v, g, bs, rfl, hO, hB⟩
      have HO := hide hO
      have HB := hide hB
      clear hO hB HM
      go_wp2_with fail
      go_ret
      exact ⟨_, g, bs, rfl, by rw [HR2.out]; exact ownMks_wide HO.out H2.out.2.2.1.size, H2.out.2.2.1.trans (HB.out.mono H2.out.2.2.1.size)⟩

end Go.Proofs.Ytifbbbgcdklaaaa
