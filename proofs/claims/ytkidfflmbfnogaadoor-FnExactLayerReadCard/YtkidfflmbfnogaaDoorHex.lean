/- Bytes read of figures: the plain part. -/
import Derived.Lib.Bytealg
import Derived.Test.YtkidfflmbfnogaaDoorCut
namespace Go.Proofs.YtkidfflmbfnogaaDoor

/-- What a figure is; 99 for what is none. -/
def digV (c : UInt8) : Nat := if 48 ≤ c.toNat ∧ c.toNat ≤ 57 then c.toNat - 48 else if 97 ≤ c.toNat ∧ c.toNat ≤ 102 then c.toNat - 87 else 99
abbrev figsL : List UInt8 := [48, 49, 50, 51, 52, 53, 54, 55, 56, 57, 97, 98, 99, 100, 101, 102]
theorem digV_index (c : UInt8) : Lib.indexByte figsL c = if digV c < 16 then (digV c : Int) else -1 := by
  have h : ∀ n : Fin 256, Lib.indexByte figsL (UInt8.ofNat n.val) = if digV (UInt8.ofNat n.val) < 16 then (digV (UInt8.ofNat n.val) : Int) else -1 := by decide +kernel
  have e : UInt8.ofNat c.toNat = c := by simp
  have := h ⟨c.toNat, c.toNat_lt⟩
  rwa [e] at this
/-- Bytes of figures, two for each. -/
def unhex : List UInt8 → Option (List UInt8)
  | [] => some []
  | [_] => none
  | a :: b :: r => if digV a < 16 ∧ digV b < 16 then (unhex r).map (fun l => UInt8.ofNat (16 * digV a + digV b) :: l) else none
theorem unhex_two (a b : UInt8) : ∀ (l x : List UInt8), unhex l = some x → unhex (l ++ [a, b]) = if digV a < 16 ∧ digV b < 16 then some (x ++ [UInt8.ofNat (16 * digV a + digV b)]) else none
  | [], x, h => by
    cases h
    simp [unhex]
  | [_], x, h => by simp [unhex] at h
  | c :: d :: r, x, h => by
    rw [unhex] at h
    split at h
    · rename_i hc
      obtain ⟨y, hy, rfl⟩ := Option.map_eq_some_iff.1 h
      rw [List.cons_append, List.cons_append, unhex, if_pos hc, unhex_two a b r y hy]
      split <;> simp
    · cases h
theorem unhex_none (a b : UInt8) : ∀ (l r x : List UInt8), unhex l = some x → ¬ (digV a < 16 ∧ digV b < 16) → unhex (l ++ a :: b :: r) = none
  | [], r, x, _, hn => by rw [List.nil_append, unhex, if_neg hn]
  | [_], _, x, h, _ => by simp [unhex] at h
  | c :: d :: l, r, x, h, hn => by
    rw [unhex] at h
    split at h
    · rename_i hc
      obtain ⟨y, hy, rfl⟩ := Option.map_eq_some_iff.1 h
      rw [List.cons_append, List.cons_append, unhex, if_pos hc, unhex_none a b l r y hy hn]; rfl
    · cases h
theorem unhex_len : ∀ (l x : List UInt8), unhex l = some x → 2 * x.length = l.length
  | [], x, h => by cases h; rfl
  | [_], x, h => by simp [unhex] at h
  | c :: d :: r, x, h => by
    rw [unhex] at h
    split at h
    · obtain ⟨y, hy, rfl⟩ := Option.map_eq_some_iff.1 h
      have := unhex_len r y hy
      simp
      omega
    · cases h
theorem take_two (s : ByteArray) (k : Nat) (h : k + 1 < s.size) : s.data.toList.take (k + 2) = s.data.toList.take k ++ [s[k], s[k + 1]] := by
  rw [take_succ_byte s (k + 1) h, take_succ_byte s k (by omega), List.append_assoc]; rfl
theorem split_two (s : ByteArray) (k : Nat) (h : k + 1 < s.size) : s.data.toList = s.data.toList.take k ++ s[k] :: s[k + 1] :: s.data.toList.drop (k + 2) := by
  have := List.take_append_drop (k + 2) s.data.toList
  rw [take_two s k h, List.append_assoc] at this
  exact this.symm
/-- What a text of figures is; a dash is nothing at all. -/
def bytesV (s : ByteArray) : Option ByteArray := if s = ⟨#[45]⟩ then some ⟨#[]⟩ else if s.size = 0 then none else (unhex s.data.toList).map ofL

end Go.Proofs.YtkidfflmbfnogaaDoor
