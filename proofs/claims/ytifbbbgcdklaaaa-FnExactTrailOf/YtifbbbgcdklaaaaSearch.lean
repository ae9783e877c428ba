/- slices.BinarySearch over names that ascend: where a text is, or would be. -/
import Derived.Test.YtifbbbgcdklaaaaLow
import Derived.Test.YtifbbbgcdklaaaaProg
import Derived.Test.YtifbbbgcdklaaaaRoot
namespace Go.Proofs.Ytifbbbgcdklaaaa
open Go.RowKit

theorem asc_of_names (l : List ByteArray) (h : namesB l = true) : Asc l := by
  have step : ∀ (p : Nat) (hp : p + 1 < l.length), Op.bytesLess l[p].toList l[p + 1].toList = true := fun p hp => by
    have := List.all_eq_true.1 h (p + 1) (List.mem_range.2 hp)
    rw [nameAt, getD_at _ _ hp, Nat.add_sub_cancel, getD_at _ p (by omega), less, Bool.and_eq_true] at this
    simpa using this.2
  intro p q hp hq hpq
  induction q with
  | zero => omega
  | succ q ih =>
    by_cases e : p = q
    · subst e; exact step p hq
    · exact bytesLess_trans _ _ _ (ih (by omega) (by omega)) (step q hq)

end Go.Proofs.Ytifbbbgcdklaaaa
