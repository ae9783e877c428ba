/- The laws' marks: markText gives a text of a number; markStringS lays such texts over a list of strings. -/
import Derived.Test.YtblcmnlbapbebaaDoorProg
import Derived.Test.YtblcmnlbapbebaaDoorLow
import Derived.Test.YtblcmnlbapbebaaDoorLeaf
import Derived.WalkKit
import Derived.WalkSpells
import Derived.WalkLawsBesides
import Derived.Test.YtblcmnlbapbebaaDoorProg
namespace Go.Proofs.YtblcmnlbapbebaaDoor
open Go.RowKit

def digs : Nat → Nat → ByteArray → ByteArray
  | 0, _, s => s
  | f + 1, n, s => if n = 0 then s else digs f (n / 10) (⟨#[48 + UInt8.ofNat (n % 10)]⟩ ++ s)
def mtext (k : Nat) : ByteArray := ⟨#[109]⟩ ++ digs k k ⟨#[]⟩

theorem digs_zero (f : Nat) (s : ByteArray) : digs f 0 s = s := by
  cases f with
  | zero => rfl
  | succ f => rw [digs, if_pos rfl]
theorem size_one (x : UInt8) (s : ByteArray) : ((⟨#[x]⟩ : ByteArray) ++ s).size = 1 + s.size := by
  rw [ByteArray.size_append]; rfl
theorem digs_size : ∀ (f n : Nat) (s : ByteArray), (digs f n s).size ≤ s.size + n
  | 0, _, _ => Nat.le_add_right _ _
  | f + 1, n, s => by
    rw [digs]
    split
    · exact Nat.le_add_right _ _
    · have := digs_size f (n / 10) (⟨#[48 + UInt8.ofNat (n % 10)]⟩ ++ s)
      rw [size_one] at this
      omega
theorem mtext_size (k : Nat) : (mtext k).size ≤ k + 1 := by
  rw [mtext, size_one]
  have := digs_size k k ⟨#[]⟩
  have e : (⟨#[]⟩ : ByteArray).size = 0 := rfl
  omega


end Go.Proofs.YtblcmnlbapbebaaDoor
