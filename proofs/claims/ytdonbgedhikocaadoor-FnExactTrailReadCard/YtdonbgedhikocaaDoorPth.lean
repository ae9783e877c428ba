/- Paths held against each other: what comes ahead, what lies within; both sides. -/
import Derived.Test.YtdonbgedhikocaaDoorPathB
import Derived.Test.YtdonbgedhikocaaDoorLow
import Derived.Test.YtdonbgedhikocaaDoorEq
import Derived.Deep.QuietTactic
import Derived.BigQuiet
namespace Go.Proofs.YtdonbgedhikocaaDoor
open Go.RowKit

/-- A path comes ahead of another one. -/
def pathLt : List ByteArray → List ByteArray → Bool
  | _, [] => false
  | [], _ :: _ => true
  | x :: a, y :: b => if x.toList == y.toList then pathLt a b else Op.bytesLess x.toList y.toList
/-- slices.Compare of two paths. -/
def cmpP : List ByteArray → List ByteArray → Int
  | [], [] => 0
  | [], _ :: _ => -1
  | _ :: _, [] => 1
  | x :: a, y :: b => if Op.bytesLess x.toList y.toList then -1 else if Op.bytesLess y.toList x.toList then 1 else cmpP a b
/-- The first path is a beginning of the second. -/
def preB : List ByteArray → List ByteArray → Bool
  | [], _ => true
  | _ :: _, [] => false
  | x :: q, y :: p => (y.toList == x.toList) && preB q p

theorem pathLt_drop (a b : List ByteArray) (k : Nat) (h : k < a.length) (h' : k < b.length) : pathLt (a.drop k) (b.drop k) = if a[k].toList == b[k].toList then pathLt (a.drop (k + 1)) (b.drop (k + 1)) else Op.bytesLess a[k].toList b[k].toList := by
  rw [List.drop_eq_getElem_cons h, List.drop_eq_getElem_cons h', pathLt]
theorem pathLt_end (a b : List ByteArray) (k : Nat) (hk : k ≤ a.length) (hk' : k ≤ b.length) (h : ¬ (k < a.length ∧ k < b.length)) : pathLt (a.drop k) (b.drop k) = decide (a.length < b.length) := by
  by_cases h1 : k < a.length
  · have h2 : k = b.length := by omega
    subst h2
    rw [List.drop_length, decide_eq_false (by omega)]
    cases a.drop b.length <;> rfl
  · have h2 : k = a.length := by omega
    subst h2
    rw [List.drop_length]
    by_cases h3 : a.length < b.length
    · rw [List.drop_eq_getElem_cons h3, decide_eq_true (by omega)]
      rfl
    · rw [List.drop_eq_nil_of_le (by omega), decide_eq_false (by omega)]
      rfl
theorem cmpP_drop (a b : List ByteArray) (k : Nat) (h : k < a.length) (h' : k < b.length) : cmpP (a.drop k) (b.drop k) = if Op.bytesLess a[k].toList b[k].toList then -1 else if Op.bytesLess b[k].toList a[k].toList then 1 else cmpP (a.drop (k + 1)) (b.drop (k + 1)) := by
  rw [List.drop_eq_getElem_cons h, List.drop_eq_getElem_cons h', cmpP]
theorem preB_drop (q p : List ByteArray) (k : Nat) (h : k < q.length) (h' : k < p.length) : preB (q.drop k) (p.drop k) = ((p[k].toList == q[k].toList) && preB (q.drop (k + 1)) (p.drop (k + 1))) := by
  rw [List.drop_eq_getElem_cons h, List.drop_eq_getElem_cons h', preB]
theorem preB_short : ∀ (q p : List ByteArray), p.length < q.length → preB q p = false
  | [], _, h => by simp at h
  | _ :: _, [], _ => rfl
  | _ :: q, _ :: p, h => by rw [preB, preB_short q p (by simpa using h)]; simp
theorem cmpP_neg : ∀ (a b : List ByteArray), decide (0 ≤ cmpP a b) = !pathLt a b
  | [], [] => rfl
  | [], _ :: _ => rfl
  | _ :: _, [] => rfl
  | x :: a, y :: b => by
    rw [cmpP, pathLt]
    have t := bytesLess_tri x.toList y.toList
    cases h1 : Op.bytesLess x.toList y.toList with
    | true =>
      rw [h1] at t
      have e : (x.toList == y.toList) = false := by
        rw [beq_eq_false_iff_ne]; intro e; rw [e, less_irrefl] at h1; cases h1
      rw [if_pos rfl, e]
      rfl
    | false =>
      rw [h1] at t
      cases h2 : Op.bytesLess y.toList x.toList with
      | true =>
        have e : (x.toList == y.toList) = false := by
          rw [beq_eq_false_iff_ne]; intro e; rw [e, less_irrefl] at h2; cases h2
        rw [if_neg (by simp), if_pos rfl, e]
        rfl
      | false =>
        rw [h2] at t
        have e : (x.toList == y.toList) = true := by
          rw [beq_iff_eq]
          have : (y.toList == x.toList) = true := by simpa using t
          exact (beq_iff_eq.1 this).symm
        rw [if_neg (by simp), if_neg (by simp), e, if_pos rfl, cmpP_neg a b]

def cmpS (x y : ByteArray) : Int := if Op.bytesLess x.toList y.toList then -1 else if Op.bytesLess y.toList x.toList then 1 else 0
set_option maxHeartbeats 400000 in
theorem cmpCompare_any (x y : ByteArray) (w : World) : Calls Tryd.prog 45 #[.string x, .string y] w fun e w' => e = .returned (.int .i64 (cmpS x y)) ∧ w' = w := by
  have t := bytesLess_tri y.toList x.toList
  cases he : (x.toList == y.toList) <;> cases h1 : Op.bytesLess x.toList y.toList
  all_goals
    rw [h1, he] at t
    obtain ⟨r, hr⟩ : ∃ r, r = cmpS x y := ⟨_, rfl⟩
    rw [← hr]
    rw [cmpS, h1, t] at hr
    have HR := hide hr
    clear hr t
    go_enter Tryd.func45, Tryd.ntmps45
    go_wp2_with (go_at_call 56; refine (cmpNaN_any _ _).mono ?_; rintro e w ⟨rfl, rfl⟩)
    go_ret
    exact ⟨by rw [HR.out]; rfl, rfl⟩

set_option maxHeartbeats 1000000 in
theorem compare_any (a b : List ByteArray) (va vb : Value) (w : World) (lo hi lo' hi' : Nat) (hv : StrsAt w lo hi va a) (hv' : StrsAt w lo' hi' vb b) :
    Calls Tryd.prog 35 #[va, vb] w fun e w' => e = .returned (.int .i64 (cmpP a b)) ∧ w' = w := by
  obtain ⟨aa, ca, rfl, hla, _, hca⟩ := hv
  obtain ⟨ab, cb, rfl, hlb, _, hcb⟩ := hv'
  unfold maxLen at hla hlb
  have HR : Hid (cmpP a b = cmpP (a.drop 0) (b.drop 0)) := rfl
  generalize cmpP a b = res at HR ⊢
  go_enter Tryd.func35, Tryd.ntmps35
  go_wp2_with fail
  go_loop [11] (fun i => ∃ (k : Nat), k ≤ a.length ∧ k ≤ b.length ∧ i = .int .i64 k ∧ Hid (res = cmpP (a.drop k) (b.drop k))) (fun i => a.length - (intOf i).toNat)
  case atStart => exact ⟨0, Nat.zero_le _, Nat.zero_le _, rfl, HR⟩
  case round =>
    obtain ⟨k, hk, hk', rfl, HK⟩ := hrel
    clear HR
    by_cases hlt : k < a.length
    · obtain ⟨ba, oa, rfl, _, _, hcell⟩ := hca (by omega)
      have hck := hcell k hlt
      have hltI : (k : Int) < (a.length : Int) := by omega
      clear hca hcell
      by_cases hlt' : k < b.length
      · obtain ⟨bb, ob, rfl, _, _, hcell'⟩ := hcb (by omega)
        have hck' := hcell' k hlt'
        have hltI' : (k : Int) < (b.length : Int) := by omega
        have hd : decide ((b.length : Int) ≤ (k : Int)) = false := by simp; omega
        clear hcb hcell'
        have HC : Hid (∀ u, Calls Tryd.prog 45 #[.string a[k], .string b[k]] u fun e w' => e = .returned (.int .i64 (cmpS a[k] b[k])) ∧ w' = u) := fun u => cmpCompare_any _ _ u
        have HD := hide (cmpP_drop a b k hlt hlt')
        cases h1 : Op.bytesLess a[k].toList b[k].toList with
        | true =>
          have HV : Hid (res = -1) := by show _ = _; rw [HK.out, HD.out, h1]; rfl
          rw [show cmpS a[k] b[k] = -1 by rw [cmpS, h1]; rfl] at HC
          go_wp2_with (go_at_call 45; refine (HC.out _).mono ?_; rintro e w ⟨rfl, rfl⟩)
          go_ret
          exact ⟨by rw [HV.out]; rfl, rfl⟩
        | false =>
          cases h2 : Op.bytesLess b[k].toList a[k].toList with
          | true =>
            have HV : Hid (res = 1) := by show _ = _; rw [HK.out, HD.out, h1, h2]; rfl
            rw [show cmpS a[k] b[k] = 1 by rw [cmpS, h1, h2]; rfl] at HC
            go_wp2_with (go_at_call 45; refine (HC.out _).mono ?_; rintro e w ⟨rfl, rfl⟩)
            go_ret
            exact ⟨by rw [HV.out]; rfl, rfl⟩
          | false =>
            have HV : Hid (res = cmpP (a.drop (k + 1)) (b.drop (k + 1))) := by show _ = _; rw [HK.out, HD.out, h1, h2]; rfl
            rw [show cmpS a[k] b[k] = 0 by rw [cmpS, h1, h2]; rfl] at HC
            go_wp2_with (go_at_call 45; refine (HC.out _).mono ?_; rintro e w ⟨rfl, rfl⟩)
            go_round
            case rel => exact ⟨k + 1, by omega, by omega, by go_num, HV⟩
            case measure => simp [intOf]; omega
      · have hd : decide ((b.length : Int) ≤ (k : Int)) = true := by simp; omega
        have HV : Hid (res = 1) := by
          show _ = _
          have e : b.drop k = [] := List.drop_eq_nil_of_le (by omega)
          rw [HK.out, List.drop_eq_getElem_cons hlt, e, cmpP]
        go_wp2_with fail
        go_ret
        exact ⟨by rw [HV.out]; rfl, rfl⟩
    · have e : k = a.length := by omega
      subst e
      have hd : decide ((a.length : Int) < (a.length : Int)) = false := by simp
      by_cases hlt' : a.length < b.length
      · have hltI' : (a.length : Int) < (b.length : Int) := by omega
        have HV : Hid (res = -1) := by
          show _ = _
          rw [HK.out, List.drop_length, List.drop_eq_getElem_cons hlt', cmpP]
        go_wp2_with fail
        go_ret
        exact ⟨by rw [HV.out]; rfl, rfl⟩
      · have hltI' : ¬ (a.length : Int) < (b.length : Int) := by omega
        have HV : Hid (res = 0) := by
          show _ = _
          rw [HK.out, List.drop_length, List.drop_eq_nil_of_le (by omega), cmpP]
        go_wp2_with fail
        go_ret
        exact ⟨by rw [HV.out]; rfl, rfl⟩

set_option maxHeartbeats 1000000 in
theorem l11Less_any (a b : List ByteArray) (va vb : Value) (w : World) (lo hi lo' hi' : Nat) (hv : StrsAt w lo hi va a) (hv' : StrsAt w lo' hi' vb b) :
    Calls Tryd.prog 20 #[va, vb] w fun e w' => e = .returned (.bool (pathLt a b)) ∧ ∃ m, w' = w.drewN m := by
  obtain ⟨aa, ca, rfl, hla, _, hca⟩ := hv
  obtain ⟨ab, cb, rfl, hlb, _, hcb⟩ := hv'
  unfold maxLen at hla hlb
  have HR : Hid (pathLt a b = pathLt (a.drop 0) (b.drop 0)) := rfl
  generalize pathLt a b = res at HR ⊢
  go_enter Tryd.func20, Tryd.ntmps20
  go_wp2_with fail
  go_loopw [5] (fun i wr => ∃ (k m : Nat), k ≤ a.length ∧ k ≤ b.length ∧ i = .int .i64 k ∧ wr = w.drewN m ∧ Hid (res = pathLt (a.drop k) (b.drop k))) (fun i _ => a.length - (intOf i).toNat)
  case atStart => exact ⟨0, 0, Nat.zero_le _, Nat.zero_le _, rfl, rfl, HR⟩
  case round =>
    obtain ⟨k, m, hk, hk', rfl, rfl, HK⟩ := hrel
    clear HR
    by_cases hb : k < a.length ∧ k < b.length
    · obtain ⟨hlt, hlt'⟩ := hb
      obtain ⟨ba, oa, rfl, _, _, hcell⟩ := hca (by omega)
      obtain ⟨bb, ob, rfl, _, _, hcell'⟩ := hcb (by omega)
      have hck := hcell k hlt
      have hck' := hcell' k hlt'
      have hltI : (k : Int) < (a.length : Int) := by omega
      have hltI' : (k : Int) < (b.length : Int) := by omega
      clear hca hcb hcell hcell'
      have HD := hide (pathLt_drop a b k hlt hlt')
      cases he : (a[k].toList == b[k].toList) with
      | true =>
        have hne : (a[k].toList != b[k].toList) = false := by rw [bne, he]; rfl
        have HV : Hid (res = pathLt (a.drop (k + 1)) (b.drop (k + 1))) := by show _ = _; rw [HK.out, HD.out, he]; rfl
        go_wp2_with fail
        go_quiet (fail)
        go_wp2_with fail
        go_roundw
        case rel => exact ⟨k + 1, _, by omega, by omega, by go_num, rfl, HV⟩
        case measure => simp [intOf]; omega
      | false =>
        have hne : (a[k].toList != b[k].toList) = true := by rw [bne, he]; rfl
        have HV : Hid (res = Op.bytesLess a[k].toList b[k].toList) := by show _ = _; rw [HK.out, HD.out, he]; rfl
        go_wp2_with fail
        go_quiet (fail)
        go_wp2_with fail
        go_quiet (fail)
        go_wp2_with fail
        go_ret
        exact ⟨by rw [HV.out]; rfl, _, by rw [World.drewN_drewN, World.drewN_drewN]⟩
    · have HV : Hid (res = decide (a.length < b.length)) := by show _ = _; rw [HK.out]; exact pathLt_end a b k hk hk' hb
      by_cases hlt : k < a.length
      · have hltI : (k : Int) < (a.length : Int) := by omega
        have hd : decide ((k : Int) < (b.length : Int)) = false := by simp; omega
        go_wp2_with fail
        go_ret
        exact ⟨by rw [HV.out]; rfl, _, rfl⟩
      · have hd : decide ((k : Int) < (a.length : Int)) = false := by simp; omega
        go_wp2_with fail
        go_ret
        exact ⟨by rw [HV.out]; rfl, _, rfl⟩

set_option maxHeartbeats 1000000 in
theorem l2Within_any (p q : List ByteArray) (vp vq : Value) (w : World) (lo hi lo' hi' : Nat) (hv : StrsAt w lo hi vp p) (hv' : StrsAt w lo' hi' vq q) :
    Calls Tryd.prog 21 #[vp, vq] w fun e w' => e = .returned (.bool (preB q p)) ∧ ∃ m, w' = w.drewN m := by
  obtain ⟨aa, ca, rfl, hla, _, hca⟩ := hv
  obtain ⟨ab, cb, rfl, hlb, _, hcb⟩ := hv'
  unfold maxLen at hla hlb
  by_cases hsh : p.length < q.length
  · have hI : (p.length : Int) < (q.length : Int) := by omega
    have HV := hide (preB_short q p hsh)
    go_enter Tryd.func21, Tryd.ntmps21
    go_wp2_with fail
    go_ret
    exact ⟨by rw [HV.out]; rfl, 0, rfl⟩
  have HR : Hid (preB q p = preB (q.drop 0) (p.drop 0)) := rfl
  generalize preB q p = res at HR ⊢
  have hI : ¬ (p.length : Int) < (q.length : Int) := by omega
  go_enter Tryd.func21, Tryd.ntmps21
  go_wp2_with fail
  go_loopw [5] (fun i wr => ∃ (k m : Nat), k ≤ q.length ∧ i = .int .i64 k ∧ wr = w.drewN m ∧ Hid (res = preB (q.drop k) (p.drop k))) (fun i _ => q.length - (intOf i).toNat)
  case atStart => exact ⟨0, 0, Nat.zero_le _, rfl, rfl, HR⟩
  case round =>
    obtain ⟨k, m, hk, rfl, rfl, HK⟩ := hrel
    clear HR
    by_cases hlt' : k < q.length
    · have hlt : k < p.length := by omega
      obtain ⟨ba, oa, rfl, _, _, hcell⟩ := hca (by omega)
      obtain ⟨bb, ob, rfl, _, _, hcell'⟩ := hcb (by omega)
      have hck := hcell k hlt
      have hck' := hcell' k hlt'
      have hltI : (k : Int) < (p.length : Int) := by omega
      have hltI' : (k : Int) < (q.length : Int) := by omega
      clear hca hcb hcell hcell'
      have HD := hide (preB_drop q p k hlt' hlt)
      cases he : (p[k].toList == q[k].toList) with
      | true =>
        have hne : (p[k].toList != q[k].toList) = false := by rw [bne, he]; rfl
        have HV : Hid (res = preB (q.drop (k + 1)) (p.drop (k + 1))) := by show _ = _; rw [HK.out, HD.out, he]; rfl
        go_wp2_with fail
        go_quiet (fail)
        go_wp2_with fail
        go_roundw
        case rel => exact ⟨k + 1, _, by omega, by go_num, rfl, HV⟩
        case measure => simp [intOf]; omega
      | false =>
        have hne : (p[k].toList != q[k].toList) = true := by rw [bne, he]; rfl
        have HV : Hid (res = false) := by show _ = _; rw [HK.out, HD.out, he]; rfl
        go_wp2_with fail
        go_quiet (fail)
        go_wp2_with fail
        go_ret
        exact ⟨by rw [HV.out]; rfl, _, by rw [World.drewN_drewN]⟩
    · have HV : Hid (res = true) := by show _ = _; rw [HK.out, List.drop_eq_nil_of_le (by omega), preB]
      go_wp2_with fail
      go_ret
      exact ⟨by rw [HV.out]; rfl, _, rfl⟩

end Go.Proofs.YtdonbgedhikocaaDoor
