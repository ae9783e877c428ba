/- Stores, as plain values: what is written for a checkpoint and for a group. -/
import Derived.Test.YtofgadldopaniaaDoorRwO
import Derived.Test.YtofgadldopaniaaDoorSvD
namespace Go.Proofs.YtofgadldopaniaaDoor
open Go.RowKit

/-- The piece of a text of so many bytes each, of a number. -/
def piece (s : ByteArray) (k i : Nat) : ByteArray := s.extract (i * k) (min (i * k + k) s.size)
/-- Writes of blocks one behind the other. -/
def wrs (f : Nat → ByteArray) (first n : Nat) : List Rw := (List.range n).map fun i => ⟨((first + i : Nat) : Int), f i⟩
theorem wrs_length (f : Nat → ByteArray) (first n : Nat) : (wrs f first n).length = n := by simp [wrs]
theorem wrs_succ (f : Nat → ByteArray) (first n : Nat) : wrs f first (n + 1) = wrs f first n ++ [⟨((first + n : Nat) : Int), f n⟩] := by simp [wrs, List.range_succ]
theorem wrs_get (f : Nat → ByteArray) (first n i : Nat) (h : i < (wrs f first n).length) : (wrs f first n)[i] = ⟨((first + i : Nat) : Int), f i⟩ := by simp [wrs]
theorem piece_size (s : ByteArray) (k i : Nat) : (piece s k i).size ≤ k := by
  rw [piece, ByteArray.size_extract]
  omega
def headC (g n : Nat) : ByteArray := ((⟨#[67, 32]⟩ ++ dgs g) ++ ⟨#[32]⟩) ++ dgs n
def headH (g m n : Nat) : ByteArray := ((((⟨#[72, 32]⟩ ++ dgs g) ++ ⟨#[32]⟩) ++ dgs m) ++ ⟨#[32]⟩) ++ dgs n
theorem headC_size (g n : Nat) (hg : g ≤ 9223372036854775807) (hn : n ≤ 9223372036854775807) : (headC g n).size ≤ 45 := by
  have h1 := dgs_size g hg
  have h2 := dgs_size n hn
  have e1 : (⟨#[67, 32]⟩ : ByteArray).size = 2 := rfl
  have e2 : (⟨#[32]⟩ : ByteArray).size = 1 := rfl
  simp only [headC, ByteArray.size_append, e1, e2]
  omega
theorem headH_size (g m n : Nat) (hg : g ≤ 9223372036854775807) (hm : m ≤ 9223372036854775807) (hn : n ≤ 9223372036854775807) : (headH g m n).size ≤ 67 := by
  have h1 := dgs_size g hg
  have h2 := dgs_size n hn
  have h3 := dgs_size m hm
  have e1 : (⟨#[72, 32]⟩ : ByteArray).size = 2 := rfl
  have e2 : (⟨#[32]⟩ : ByteArray).size = 1 := rfl
  simp only [headH, ByteArray.size_append, e1, e2]
  omega
/-- What is written for a checkpoint. -/
def savedV (g : Nat) (s : ByteArray) : List Rw := wrs (piece s 64) (14 + g % 2 * 90) ((s.size + 63) / 64) ++ [⟨((g % 2 : Nat) : Int), headC g s.size⟩]
/-- What is written for a group. -/
def groupV (g m next : Nat) (s : ByteArray) : List Rw := wrs (fun i => ⟨#[68]⟩ ++ piece s 63 i) (2 + next + 1) ((s.size + 62) / 63) ++ [⟨((2 + next : Nat) : Int), headH g m s.size⟩]
theorem savedV_length (g : Nat) (s : ByteArray) : (savedV g s).length = (s.size + 63) / 64 + 1 := by simp [savedV, wrs_length]
theorem groupV_length (g m next : Nat) (s : ByteArray) : (groupV g m next s).length = (s.size + 62) / 63 + 1 := by simp [groupV, wrs_length]
theorem sizes_add {l : List Rw} {r : Rw} (h : ∀ (i : Nat) (h : i < l.length), l[i].data.size ≤ maxLen) (hr : r.data.size ≤ maxLen) : ∀ (i : Nat) (h : i < (l ++ [r]).length), (l ++ [r])[i].data.size ≤ maxLen := by
  intro i hi
  by_cases hi2 : i < l.length
  · rw [List.getElem_append_left hi2]; exact h i hi2
  · rw [List.getElem_append_right (by omega), List.getElem_singleton]; exact hr
theorem wrs_sizes (f : Nat → ByteArray) (first n : Nat) (h : ∀ i, (f i).size ≤ 65) : ∀ (i : Nat) (h : i < (wrs f first n).length), (wrs f first n)[i].data.size ≤ maxLen := by
  intro i hi
  rw [wrs_get]
  have := h i
  show (f i).size ≤ maxLen
  unfold maxLen
  omega
theorem savedV_sizes (g : Nat) (s : ByteArray) (hg : g ≤ 9223372036854775807) (hs : s.size ≤ 9223372036854775807) : ∀ (i : Nat) (h : i < (savedV g s).length), (savedV g s)[i].data.size ≤ maxLen :=
  sizes_add (wrs_sizes _ _ _ (fun i => by have := piece_size s 64 i; omega)) (by show (headC g s.size).size ≤ _; have := headC_size g s.size hg hs; unfold maxLen; omega)
theorem groupV_sizes (g m next : Nat) (s : ByteArray) (hg : g ≤ 9223372036854775807) (hm : m ≤ 9223372036854775807) (hs : s.size ≤ 9223372036854775807) : ∀ (i : Nat) (h : i < (groupV g m next s).length), (groupV g m next s)[i].data.size ≤ maxLen :=
  sizes_add (wrs_sizes _ _ _ (fun i => by
      have := piece_size s 63 i
      have e1 : (⟨#[68]⟩ : ByteArray).size = 1 := rfl
      rw [ByteArray.size_append, e1]
      omega)) (by show (headH g m s.size).size ≤ _; have := headH_size g m s.size hg hm hs; unfold maxLen; omega)

theorem info_R : ∃ i, Tryd.prog.info? 42 = some i ∧ i.zero = some (.agg zeroR) ∧ i.size = 2 ∧ i.bytes = 24 := by
  have h := info_raw
  obtain ⟨i, hi, he⟩ := Option.map_eq_some_iff.1 h
  simp only [Prod.mk.injEq] at he
  exact ⟨i, hi, he⟩

theorem cell_two_at {W : World} {A : Array Value} {t : TypeId} {x y : Value} (h : A = #[x, y]) : ∀ j u, [x, y][j]? = some u → (W.alloc (.cells A t)).cell? ((⟨W.heap.size, 0, none⟩ : Addr).add j) = some u := by
  subst h
  intro j u hu
  have e : Addr.add ⟨W.heap.size, 0, none⟩ j = ⟨W.heap.size, j, none⟩ := by unfold Addr.add; split <;> simp_all
  rw [e]
  rcases j with _ | _ | j
  · simp at hu; subst hu; exact (Blk.new W #[x, y] t).cell 0 _ rfl
  · simp at hu; subst hu; exact (Blk.new W #[x, y] t).cell 1 _ rfl
  · simp at hu

/-- A row of raw writes that came by append. -/
def RwRow (W : World) (lo : Nat) (v : Value) (l : List Rw) : Prop := W.ownsRow lo 42 2 v l.length (rawC l)
theorem RwRow.snoc {W : World} {lo n : Nat} {v : Value} {l : List Rw} {p : Int} {d : ByteArray} (hn : n = l.length) (h : W.ownsRow lo 42 2 v (n + 1) (rawC l ++ [.int .i64 p, .string d])) : RwRow W lo v (l ++ [⟨p, d⟩]) := by
  subst hn
  unfold RwRow
  rw [rawC_snoc, List.length_append]
  exact h
theorem RwRow.nil (W : World) (lo : Nat) : RwRow W lo (.slice none 0 0) [] := World.ownsRow_nil _ _ _ _
theorem RwRow.none {W : World} {lo b : Nat} (h : Blk W b #[] 42) (hb : lo ≤ b) : RwRow W lo (.slice (some ⟨b, 0, none⟩) 0 0) [] :=
  ⟨rfl, .inr ⟨b, 0, #[], rfl, hb, h, Nat.le_refl _, by unfold maxLen; omega, rfl, rfl⟩⟩
theorem RwRow.keep {W W' : World} {lo : Nat} {v : Value} {l : List Rw} (h : RwRow W lo v l) (hb : Below W.heap.size W W') : RwRow W' lo v l := by
  refine ownsRow_same h fun g hg => hb.block g ?_
  rcases h.2 with ⟨e1, _⟩ | ⟨g', cap, cur, e1, _, e3, _⟩
  · rw [e1] at hg; simp [Value.ownBlock] at hg
  · rw [e1] at hg; simp [Value.ownBlock] at hg; subst hg; exact (Array.getElem?_eq_some_iff.1 e3).1
theorem row_base {A : World} {base : Nat} {e : TypeId} {sz : Nat} {v : Value} {n : Nat} {xs : List Value} (h : A.ownsRow base e sz v n xs) : ∀ k, v.ownBlock = some k → base ≤ k := fun k hk => by
  rcases h.2 with ⟨rfl, _⟩ | ⟨g, cap, cur, rfl, h2, _⟩
  · simp [Value.ownBlock] at hk
  · simp [Value.ownBlock] at hk; omega
theorem RwRow.ow {W : World} {lo : Nat} {v : Value} {l : List Rw} (h : RwRow W lo v l) (hs : ∀ (i : Nat) (h : i < l.length), l[i].data.size ≤ maxLen) : ∃ a c b, v = .slice a l.length c ∧ OwRws W lo W.heap.size b v l := by
  obtain ⟨b, hb⟩ := owRws_row h hs
  obtain ⟨a, c, hv, _⟩ := hb.1
  exact ⟨a, c, b, hv, hb⟩
theorem RwRow.base {W : World} {lo lo' : Nat} {v : Value} {l : List Rw} (h : RwRow W lo v l) (hl : lo' ≤ lo) : RwRow W lo' v l := by
  unfold RwRow World.ownsRow at h ⊢
  refine ⟨h.1, ?_⟩
  rcases h.2 with h | ⟨g, cap, cur, q1, q2, q3⟩
  · exact .inl h
  · exact .inr ⟨g, cap, cur, q1, by omega, q3⟩
theorem rwrow_at {W : World} {lo N : Nat} {v : Value} {l : List Rw} (h : RwRow W lo v l) (hn : l.length = N) : W.ownsRow lo 42 2 v N (rawC l) := by
  subst hn; exact h
theorem blk_two {W : World} {b : Nat} {x y : Value} {t : TypeId} (h : Blk W b #[x, y] t) : ∀ j u, [x, y][j]? = some u → W.cell? ((⟨b, 0, none⟩ : Addr).add j) = some u := by
  intro j u hu
  have e : Addr.add ⟨b, 0, none⟩ j = ⟨b, j, none⟩ := by unfold Addr.add; split <;> simp_all
  rw [e]
  rcases j with _ | _ | j
  · simp at hu; subst hu; exact h.cell 0 _ rfl
  · simp at hu; subst hu; exact h.cell 1 _ rfl
  · simp at hu

end Go.Proofs.YtofgadldopaniaaDoor
