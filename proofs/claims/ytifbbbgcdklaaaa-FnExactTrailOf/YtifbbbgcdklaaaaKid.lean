/- kidOf and partAt: what a name is right below a part; what is at a path. -/
import Derived.Test.YtifbbbgcdklaaaaProg
import Derived.Test.YtifbbbgcdklaaaaSearch
namespace Go.Proofs.Ytifbbbgcdklaaaa
open Go.RowKit

/-- What the names and kids of a part that is ok are like. -/
structure Good {α : Type} (t : Nd α) : Prop where
  len : t.names.length = t.kids.length
  asc : Asc t.names
  file : t.dir = false → t.names = []
  small : t.names.length ≤ 1048576

theorem ta_fd (a : Option Addr) (w : World) : Sem.run Try.prog (Instr.typeAssert (.iface 86 (.pointer a)) 73 55 true) w = .ok (.tuple #[.pointer none, .bool false]) w := by kernel_rfl
theorem ta_dd (a : Option Addr) (w : World) : Sem.run Try.prog (Instr.typeAssert (.iface 55 (.pointer a)) 73 55 true) w = .ok (.tuple #[.pointer a, .bool true]) w := by kernel_rfl
theorem ta_ff (a : Option Addr) (w : World) : Sem.run Try.prog (Instr.typeAssert (.iface 86 (.pointer a)) 73 86 true) w = .ok (.tuple #[.pointer a, .bool true]) w := by kernel_rfl
theorem ta_df (a : Option Addr) (w : World) : Sem.run Try.prog (Instr.typeAssert (.iface 55 (.pointer a)) 73 86 true) w = .ok (.tuple #[.pointer none, .bool false]) w := by kernel_rfl

set_option maxHeartbeats 1000000 in
theorem kidOf_no (n : Nat) (t : T (n + 1)) (hg : Good t) (v : Value) (s : ByteArray) (w : World) (lo hi : Nat) (hp : PRep w lo hi (n + 1) t v) (hno : hasB t.names s = false) :
    Calls Try.prog 49 #[v, .string s] w fun e w' => e = .returned (.tuple #[.nilIface, .bool false]) ∧ w' = w := by
  rcases hp with ⟨hd, b, rfl, _, _, hb⟩ | ⟨hd, b, rfl, _, _, nv, kv, hb, hN, hK⟩
  · have t1 := ta_fd
    go_enter Try.func49, Try.ntmps49
    go_wp2_with fail
    go_ret2
    exact ⟨rfl, rfl⟩
  · have x1 := hb.cell 1 _ rfl
    have HN := hide hN
    have HG := hide hg
    have HNo := hide hno
    clear hN hK hb hg hno
    have t1 := ta_dd
    go_enter Try.func49, Try.ntmps49
    go_wp2_with fail
    refine (search_any t.names HG.out.asc nv s w lo hi HN.out HG.out.small).mono ?_
    rw [HNo.out]
    rintro e w1 ⟨pos, rfl, _, rfl⟩
    go_wp2_with fail
    go_ret2
    exact ⟨rfl, rfl⟩

set_option maxHeartbeats 1000000 in
theorem kidOf_yes (n : Nat) (t : T (n + 1)) (hg : Good t) (v : Value) (s : ByteArray) (w : World) (lo hi : Nat) (hp : PRep w lo hi (n + 1) t v) (hyes : hasB t.names s = true) :
    Calls Try.prog 49 #[v, .string s] w fun e w' => ∃ (i : Nat) (hi' : i < t.kids.length) (hn : i < t.names.length) (pv : Value), e = .returned (.tuple #[pv, .bool true]) ∧ w' = w ∧ t.names[i] = s ∧ PRep w lo hi n t.kids[i] pv := by
  rcases hp with ⟨hd, b, rfl, _, _, hb⟩ | ⟨hd, b, rfl, _, _, nv, kv, hb, hN, hK⟩
  · rw [hg.file hd] at hyes
    cases hyes
  · have x1 := hb.cell 1 _ rfl
    have x2 := hb.cell 2 _ rfl
    have HN := hide hN
    have HG := hide hg
    have HY := hide hyes
    obtain ⟨a, cap, rfl, _, hc⟩ := hK
    have HC := hide hc
    clear hN hc hb hg hyes
    have t1 := ta_dd
    go_enter Try.func49, Try.ntmps49
    go_wp2_with fail
    refine (search_any t.names HG.out.asc nv s w lo hi HN.out HG.out.small).mono ?_
    rw [HY.out]
    rintro e w1 ⟨pos, rfl, hF, rfl⟩
    obtain ⟨hpos, heq⟩ := hF.yes HY.out
    have hpk : pos < t.kids.length := by rw [← HG.out.len]; exact hpos
    have hpI : (pos : Int) < (t.kids.length : Int) := by omega
    obtain ⟨b', o', rfl, _, _, hcell⟩ := HC.out (by omega)
    obtain ⟨pv, hcp, hr⟩ := hcell pos hpk
    have HE := hide heq
    have HR := hide hr
    clear hF heq hr hcell HC
    go_wp2_with fail
    go_ret2
    exact ⟨pos, hpk, hpos, pv, rfl, rfl, HE.out, HR.out⟩

/-! ### What is at a path -/
def findN (l : List ByteArray) (s : ByteArray) : Option Nat := l.findIdx? (fun x => x.toList == s.toList)
def atT : (n : Nat) → T n → List ByteArray → Option ((m : Nat) × T m)
  | n, t, [] => some ⟨n, t⟩
  | 0, _, _ :: _ => none
  | n + 1, t, s :: r => match findN t.names s with
    | none => none
    | some i => match t.kids[i]? with
      | none => none
      | some k => atT n k r

def AllGood : (n : Nat) → T n → Prop
  | 0, _ => True
  | n + 1, t => Good t ∧ ∀ (i : Nat) (h : i < t.kids.length), AllGood n t.kids[i]

theorem findN_none {l : List ByteArray} {s : ByteArray} (h : hasB l s = false) : findN l s = none := by
  rw [findN, List.findIdx?_eq_none_iff]
  intro x hx
  have := List.any_eq_false.1 h x hx
  simpa using this

theorem findN_some {l : List ByteArray} (hl : Asc l) {s : ByteArray} {i : Nat} (hi : i < l.length) (e : l[i] = s) : findN l s = some i := by
  rw [findN, List.findIdx?_eq_some_iff_getElem]
  refine ⟨hi, by rw [e]; simp, fun j hj => ?_⟩
  have h1 := hl j i (by omega) hi hj
  rw [e] at h1
  intro h2
  have h3 : l[j].toList = s.toList := by simpa using h2
  rw [h3, less_irrefl] at h1
  cases h1

theorem atT_no {n : Nat} {t : T (n + 1)} {s : ByteArray} {r : List ByteArray} (h : hasB t.names s = false) : atT (n + 1) t (s :: r) = none := by
  rw [atT, findN_none h]

theorem atT_yes {n : Nat} {t : T (n + 1)} (hg : Good t) {s : ByteArray} {r : List ByteArray} {i : Nat} (hi : i < t.names.length) (hk : i < t.kids.length) (e : t.names[i] = s) : atT (n + 1) t (s :: r) = atT n t.kids[i] r := by
  rw [atT, findN_some hg.asc hi e]
  simp only [List.getElem?_eq_getElem hk]

theorem kids_le {n : Nat} (t : T (n + 1)) : t.kids.length ≤ countT (n + 1) t := by show _ ≤ t.kids.length + _; omega
theorem kid_le {n : Nat} (t : T (n + 1)) (i : Nat) (h : i < t.kids.length) : countT n t.kids[i] ≤ countT (n + 1) t := by
  have h1 := sum_drop (countT n) t.kids i h
  have h2 := sum_take_le (countT n) t.kids (i + 1)
  show _ ≤ t.kids.length + (t.kids.map (countT n)).sum
  omega

theorem good_of_plain {α : Type} (t : Nd α) (h : plainB t.dir t.mode t.data t.names t.kids.length = true) (hs : t.kids.length ≤ 1048576) : Good t := by
  rw [plainB] at h
  simp only [Bool.and_eq_true, beq_iff_eq] at h
  obtain ⟨⟨_, h1⟩, h2⟩ := h
  cases hd : t.dir with
  | false =>
    rw [hd] at h2
    simp only [Bool.false_eq_true, if_false, Bool.and_eq_true, beq_iff_eq] at h2
    have hn : t.names = [] := List.eq_nil_of_length_eq_zero h2.2
    exact ⟨h1, by rw [hn]; intro p q hp; simp at hp, fun _ => hn, by omega⟩
  | true =>
    rw [hd] at h2
    simp only [if_true, Bool.and_eq_true] at h2
    exact ⟨h1, asc_of_names _ h2.1, (fun h => by rw [hd] at h; cases h), by omega⟩

theorem allGood_of_parts : ∀ (n : Nat) (t : T n) (d : Int), partsB n t d = true → countT n t ≤ 1048576 → AllGood n t
  | 0, _, _, _, _ => trivial
  | n + 1, t, d, h, hc => by
    have h' : (plainB t.dir t.mode t.data t.names t.kids.length && decide (d ≤ 4) && t.kids.all (fun k => partsB n k (d + 1))) = true := h
    rw [Bool.and_eq_true, Bool.and_eq_true] at h'
    refine ⟨good_of_plain t h'.1.1 (by have := kids_le t; omega), fun i hi => allGood_of_parts n _ (d + 1) (List.all_eq_true.1 h'.2 _ (List.getElem_mem hi)) (by have := kid_le t i hi; omega)⟩

theorem allGood_of_ok (n : Nat) (t : T n) (h : okT n t = true) : AllGood n t := by
  cases n with
  | zero => exact Empty.elim (show Empty from t)
  | succ n =>
    have h' : (t.dir && partsB (n + 1) t 0 && decide (countT (n + 1) t ≤ 30)) = true := h
    rw [Bool.and_eq_true, Bool.and_eq_true] at h'
    have := of_decide_eq_true h'.2
    exact allGood_of_parts _ t 0 h'.1.2 (by omega)

set_option maxHeartbeats 1000000 in
set_option maxRecDepth 100000 in
theorem partAt_any (n : Nat) (t : T n) (hg : AllGood n t) (v : Value) (path : List ByteArray) (pw : Value) (w : World) (lo hi lo' hi' : Nat) (hp : PRep w lo hi n t v) (hpath : StrsAt w lo' hi' pw path) :
    Calls Try.prog 42 #[v, pw] w fun e w' => ∃ pv, e = .returned (.tuple #[pv, .bool (atT n t path).isSome]) ∧ w' = w ∧ (atT n t path = none → pv = .nilIface) ∧ ∀ (m : Nat) (u : T m), atT n t path = some ⟨m, u⟩ → PRep w lo hi m u pv := by
  obtain ⟨a, cap, rfl, hl, _, hc⟩ := hpath
  unfold maxLen at hl
  obtain ⟨iu, ib, rfl⟩ := hp.form
  have HP := hide hp
  have HG := hide hg
  clear hp hg
  generalize hres : atT n t path = res
  have HRes := hide hres
  clear hres
  go_enter Try.func42, Try.ntmps42
  go_wp2_with fail
  go_loop [0, 12] (fun pv x => ∃ (k m pu pb : Nat) (u : T m), k ≤ path.length ∧ x = .int .i64 k ∧ pv = .iface pu (.pointer (some ⟨pb, 0, none⟩)) ∧ Hid (PRep w lo hi m u (.iface pu (.pointer (some ⟨pb, 0, none⟩)))) ∧ Hid (AllGood m u) ∧ Hid (atT m u (path.drop k) = res)) (fun _ x => path.length - (intOf x).toNat)
  case atStart => exact ⟨0, n, iu, ib, t, Nat.zero_le _, rfl, rfl, HP, HG, by rw [List.drop_zero]; exact HRes⟩
  case round =>
    obtain ⟨k, m, pu, pb, u, hk, rfl, rfl, HP, HG, HR⟩ := hrel
    clear HRes
    by_cases hlt : k < path.length
    · obtain ⟨b, o, rfl, _, _, hcell⟩ := hc (by omega)
      have hck := hcell k hlt
      have hltI : (k : Int) < (path.length : Int) := by omega
      clear hc hcell
      have HD : Hid (path.drop k = path[k] :: path.drop (k + 1)) := List.drop_eq_getElem_cons hlt
      cases m with
      | zero => exact HP.out.elim
      | succ m =>
      cases hh : hasB u.names path[k] with
      | false =>
        have HH := hide hh
        have HN : Hid (res = none) := by show _ = _; rw [← HR.out, HD.out, atT_no hh]
        clear hh
        go_wp2_with fail
        refine (kidOf_no m u HG.out.1 _ path[k] w lo hi HP.out HH.out).mono ?_
        rintro e w ⟨rfl, rfl⟩
        go_wp2_with fail
        go_ret2
        exact ⟨.nilIface, by rw [HN.out]; rfl, rfl, fun _ => rfl, fun m u h => by rw [HN.out] at h; cases h⟩
      | true =>
        have HH := hide hh
        clear hh
        go_wp2_with fail
        refine (kidOf_yes m u HG.out.1 _ path[k] w lo hi HP.out HH.out).mono ?_
        rintro e w1 ⟨i, hik, hin, pv, rfl, rfl, hE, hPR⟩
        obtain ⟨pu', pb', rfl⟩ := hPR.form
        have HE := hide hE
        have HPR := hide hPR
        clear hE hPR
        go_wp2_with fail
        go_round
        case rel => exact ⟨k + 1, m, pu', pb', u.kids[i], by omega, by go_num, rfl, HPR, HG.out.2 i hik, by show _ = _; rw [← HR.out, HD.out, atT_yes HG.out.1 hin hik HE.out]⟩
        case measure => simp [intOf]; omega
    · have HN : Hid (res = some ⟨m, u⟩) := by show _ = _; rw [← HR.out, List.drop_eq_nil_of_le (by omega), atT]
      go_wp2_with fail
      go_ret2
      refine ⟨_, by rw [HN.out]; rfl, rfl, (fun h => by rw [HN.out] at h; cases h), fun m' u' h => ?_⟩
      rw [HN.out] at h
      cases h
      exact HP.out

end Go.Proofs.Ytifbbbgcdklaaaa
