/- The specification's l1Find and l1At: what is at a path, in the memory of the tree itself. -/
import Derived.Test.YtifbbbgcdklaaaaProg
import Derived.Test.YtifbbbgcdklaaaaCopyN
import Derived.Test.YtifbbbgcdklaaaaSmall
namespace Go.Proofs.Ytifbbbgcdklaaaa
open Go.RowKit

def findI (l : List ByteArray) (s : ByteArray) : Int := match findN l s with
  | some i => i
  | none => -1

theorem findN_none' {l : List ByteArray} {s : ByteArray} (h : ∀ (j : Nat) (hj : j < l.length), l[j] ≠ s) : findN l s = none := findN_none (hasB_no h)
theorem findN_first {l : List ByteArray} {s : ByteArray} {k : Nat} (hk : k < l.length) (e : l[k] = s) (h : ∀ (j : Nat) (hj : j < l.length), j < k → l[j] ≠ s) : findN l s = some k := by
  rw [findN, List.findIdx?_eq_some_iff_getElem]
  refine ⟨hk, by rw [e]; simp, fun j hj => ?_⟩
  intro h2
  have h3 : l[j].toList = s.toList := by simpa using h2
  exact h j (by omega) hj (toList_inj h3)

set_option maxHeartbeats 1000000 in
theorem l1Find_any (dir : Bool) (mode : Int) (data : ByteArray) (names : List ByteArray) (nv kv : Value) (s : ByteArray) (w : World) (lo hi : Nat) (hkv : ∃ a m c, kv = .slice a m c) (hN : StrsAt w lo hi nv names) (hhi : hi ≤ w.heap.size) :
    Calls Try.prog 37 #[.agg #[.bool dir, .int .i64 mode, .string data, nv, kv], .string s] w fun e w' => e = .returned (.int .i64 (findI names s)) ∧ Below w.heap.size w w' := by
  obtain ⟨a, cap, rfl, hl, hs, hc⟩ := hN
  obtain ⟨ka, km, kc, rfl⟩ := hkv
  unfold maxLen at hl
  clear hs
  generalize hres : findI names s = res
  have HRes := hide hres
  clear hres
  go_enter Try.func37, Try.ntmps37
  go_wp2_with fail
  generalize hW : w.alloc (Obj.cells #[.bool dir, .int .i64 mode, .string data, .slice a names.length cap, .slice ka km kc] 34) = W
  have HW : Hid (Below w.heap.size w W ∧ Blk W w.heap.size #[.bool dir, .int .i64 mode, .string data, .slice a names.length cap, .slice ka km kc] 34) := by
    subst hW
    exact ⟨(Below.refl _ _).alloc (Nat.le_refl _) _, Blk.new w _ _⟩
  clear hW
  have x3 := HW.out.2.cell 3 _ rfl
  go_loop [5] (fun x => ∃ (k : Nat), k ≤ names.length ∧ x = .int .i64 k ∧ Hid (∀ (j : Nat) (hj : j < names.length), j < k → names[j] ≠ s)) (fun x => names.length - (intOf x).toNat)
  case atStart => exact ⟨0, Nat.zero_le _, rfl, fun j hj h => by omega⟩
  case round =>
    obtain ⟨k, hk, rfl, HI⟩ := hrel
    by_cases hlt : k < names.length
    · obtain ⟨b, o, rfl, hb1, hb2, hcell⟩ := hc (by omega)
      have hck := hcell k hlt
      rw [← HW.out.1.cell (p := ⟨b, _, none⟩) (by show b < w.heap.size; omega)] at hck
      have hltI : (k : Int) < (names.length : Int) := by omega
      clear hc hcell
      by_cases he : names[k] = s
      · have HR : Hid (res = k) := by show _ = _; rw [← HRes.out, findI, findN_first hlt he HI.out]
        go_wp2_with fail
        go_ret
        exact ⟨by rw [HR.out]; rfl, HW.out.1⟩
      · have hbe : (names[k].toList == s.toList) = false := by rw [beq_eq_false_iff_ne]; exact fun h => he (toList_inj h)
        go_wp2_with fail
        go_round
        case rel => exact ⟨k + 1, by omega, by go_num, fun j hj h => by rcases Nat.lt_succ_iff_lt_or_eq.1 h with h | h; exact HI.out j hj h; subst h; exact he⟩
        case measure => simp [intOf]; omega
    · have HR : Hid (res = -1) := by show _ = _; rw [← HRes.out, findI, findN_none' fun j hj => HI.out j hj (by omega)]
      go_wp2_with fail
      go_ret
      exact ⟨by rw [HR.out]; rfl, HW.out.1⟩

end Go.Proofs.Ytifbbbgcdklaaaa
