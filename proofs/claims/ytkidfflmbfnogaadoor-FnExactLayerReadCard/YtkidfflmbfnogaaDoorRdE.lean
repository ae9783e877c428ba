/- Entries read from the words of a line: what the program and the specification read is the same, and what is read is what is written: the plain part. -/
import Derived.Test.YtkidfflmbfnogaaDoorPthA
import Derived.Test.YtkidfflmbfnogaaDoorHex
import Derived.Test.YtkidfflmbfnogaaDoorMdS
import Derived.Test.YtkidfflmbfnogaaDoorFormN
import Derived.Test.YtkidfflmbfnogaaDoorHexI
namespace Go.Proofs.YtkidfflmbfnogaaDoor

def chk (e : Ent) : Option Ent := if entB e = true then some e else none
/-- As the specification reads. -/
def readL : List ByteArray → Option Ent
  | [a, b] => if a = fw0 then (pathS b).bind (fun p => chk ⟨p, 1, false, 0, ⟨#[]⟩⟩) else none
  | [a, b, c] => if a = fw1 then (pathS b).bind (fun p => chk ⟨p, 2, true, modeS c, ⟨#[]⟩⟩) else if a = fw3 then (pathS b).bind (fun p => chk ⟨p, 3, false, modeS c, ⟨#[]⟩⟩) else
      if a = fw4 then (pathS b).bind (fun p => (bytesV c).bind (fun x => chk ⟨p, 4, false, 0, x⟩)) else none
  | [a, b, c, f] => if a = fw2 then (pathS b).bind (fun p => (bytesV f).bind (fun x => chk ⟨p, 2, false, modeS c, x⟩)) else none
  | _ => none
/-- As the program reads. -/
def readE : List ByteArray → Option Ent
  | [a, b] => if a = fw0 then (pathR b).bind (fun p => chk ⟨p, 1, false, 0, ⟨#[]⟩⟩) else none
  | [a, b, c] => if a = fw1 then (pathR b).bind (fun p => if modeB c = true then chk ⟨p, 2, true, modeS c, ⟨#[]⟩⟩ else none) else if a = fw3 then (pathR b).bind (fun p => if modeB c = true then chk ⟨p, 3, false, modeS c, ⟨#[]⟩⟩ else none) else
      if a = fw4 then (pathR b).bind (fun p => (dataV c).bind (fun x => chk ⟨p, 4, false, 0, x⟩)) else none
  | [a, b, c, f] => if a = fw2 then (pathR b).bind (fun p => if modeB c = true then (dataV f).bind (fun x => chk ⟨p, 2, false, modeS c, x⟩) else none) else none
  | _ => none

theorem ent_path {e : Ent} (h : entB e = true) : pathV e.path = true := by
  unfold entB entQ at h
  split at h
  · cases h
  · rename_i hc
    by_cases h0 : e.path = []
    · rw [h0]; rfl
    · have hl : 0 < e.path.length := List.length_pos_iff.2 h0
      have hq : pathQ e.path = true := by
        cases hq : pathQ e.path with
        | true => rfl
        | false => exact absurd (.inl ⟨by omega, hq⟩) hc
      unfold pathV
      unfold pathQ at hq
      simp only [Bool.and_eq_true] at hq ⊢
      exact ⟨hq.1, hq.2.2⟩
theorem ent_mode {e : Ent} (h : entB e = true) : 0 ≤ e.mode := by
  unfold entB entQ at h
  split at h
  · cases h
  · rename_i hc
    apply Classical.byContradiction
    intro hn
    exact hc (.inr (.inl (by simp; omega)))
theorem ent_data {e : Ent} (h : entB e = true) : e.data.size ≤ 24 := by
  unfold entB entQ at h
  split at h
  · cases h
  · rename_i hc
    apply Classical.byContradiction
    intro hn
    exact hc (.inr (.inr (by omega)))
theorem bytes_size {s x : ByteArray} (h : bytesV s = some x) : s = ⟨#[45]⟩ ∧ x = ⟨#[]⟩ ∨ (s ≠ ⟨#[45]⟩ ∧ 0 < s.size ∧ ∃ l, unhex s.data.toList = some l ∧ x = ofL l ∧ 2 * x.size = s.size) := by
  unfold bytesV at h
  split at h
  · rename_i hd; cases h; exact .inl ⟨hd, rfl⟩
  · rename_i hd
    split at h
    · cases h
    · rename_i h0
      obtain ⟨l, hl, rfl⟩ := Option.map_eq_some_iff.1 h
      have := unhex_len _ _ hl
      refine .inr ⟨hd, by omega, l, hl, rfl, ?_⟩
      have e1 : (ofL l).size = l.length := by simp [ByteArray.size]
      have e2 : s.data.toList.length = s.size := by simp
      omega
theorem data_bytes (s : ByteArray) (f : ByteArray → Option Ent) (hf : ∀ x e, f x = some e → x.size ≤ 24) : (dataV s).bind f = (bytesV s).bind f := by
  unfold dataV
  split
  · rfl
  · rename_i hs
    cases hb : bytesV s with
    | none => rfl
    | some x =>
      rw [Option.bind_some]
      cases hfx : f x with
      | none => rfl
      | some e =>
        have h1 := hf x e hfx
        rcases bytes_size hb with ⟨h2, _⟩ | ⟨_, _, _, _, _, h2⟩
        · subst h2; exact absurd (by decide) hs
        · omega
theorem path_bind (b : ByteArray) (f g : List ByteArray → Option Ent) (hfg : ∀ p, f p = g p) (hg : ∀ p e, g p = some e → pathV p = true) : (pathR b).bind f = (pathS b).bind g := by
  unfold pathR
  cases h : pathS b with
  | none => rfl
  | some p =>
    simp only [Option.bind_some]
    by_cases hp : pathV p = true
    · rw [if_pos hp, Option.bind_some, hfg]
    · rw [if_neg hp]
      cases hq : g p with
      | none => rfl
      | some e => exact absurd (hg p e hq) hp
theorem chk_some {e e' : Ent} (h : chk e = some e') : entB e = true ∧ e' = e := by
  unfold chk at h
  split at h
  · rename_i hb; cases h; exact ⟨hb, rfl⟩
  · cases h
theorem mode_if (c : ByteArray) (x : Option Ent) (hx : ∀ e, x = some e → 0 ≤ modeS c) : (if modeB c = true then x else none) = x := by
  rw [(mode_same c).1]
  by_cases h : 0 ≤ modeS c
  · rw [if_pos (by simp [h])]
  · rw [if_neg (by simp [h])]
    cases x with
    | none => rfl
    | some e => exact absurd (hx e rfl) h
theorem read_same (ws : List ByteArray) : readE ws = readL ws := by
  match ws with
  | [] => rfl
  | [_] => rfl
  | [a, b] =>
    simp only [readE, readL]
    split
    · exact path_bind b _ _ (fun p => rfl) (fun p e h => ent_path (chk_some h).1)
    · rfl
  | [a, b, c] =>
    simp only [readE, readL]
    split
    · exact path_bind b _ _ (fun p => mode_if c _ (fun e h => ent_mode (chk_some h).1)) (fun p e h => ent_path (chk_some h).1)
    · split
      · exact path_bind b _ _ (fun p => mode_if c _ (fun e h => ent_mode (chk_some h).1)) (fun p e h => ent_path (chk_some h).1)
      · split
        · refine path_bind b _ _ (fun p => data_bytes c _ (fun x e h => ent_data (chk_some h).1)) (fun p e h => ?_)
          obtain ⟨x, _, h2⟩ := Option.bind_eq_some_iff.1 h
          exact ent_path (chk_some h2).1
        · rfl
  | [a, b, c, f] =>
    simp only [readE, readL]
    split
    · refine path_bind b _ _ (fun p => ?_) (fun p e h => ?_)
      · rw [data_bytes f _ (fun x e h => ent_data (chk_some h).1)]
        refine mode_if c _ (fun e h => ?_)
        obtain ⟨x, _, h2⟩ := Option.bind_eq_some_iff.1 h
        exact ent_mode (chk_some h2).1
      · obtain ⟨x, _, h2⟩ := Option.bind_eq_some_iff.1 h
        exact ent_path (chk_some h2).1
    · rfl
  | _ :: _ :: _ :: _ :: _ :: _ => rfl

theorem fig_dig (c : UInt8) (h : digV c < 16) : fig (digV c) = c := by
  have hh : ∀ n : Fin 256, digV (UInt8.ofNat n.val) < 16 → fig (digV (UInt8.ofNat n.val)) = UInt8.ofNat n.val := by decide +kernel
  have := hh ⟨c.toNat, c.toNat_lt⟩
  have e : UInt8.ofNat c.toNat = c := by simp
  rw [e] at this
  exact this h
theorem hex_back : ∀ (l x : List UInt8), unhex l = some x → hexL x = l
  | [], x, h => by cases h; rfl
  | [_], x, h => by simp [unhex] at h
  | a :: b :: r, x, h => by
    rw [unhex] at h
    split at h
    · rename_i hc
      obtain ⟨y, hy, rfl⟩ := Option.map_eq_some_iff.1 h
      have ih := hex_back r y hy
      have e : (UInt8.ofNat (16 * digV a + digV b)).toNat = 16 * digV a + digV b := by rw [UInt8.toNat_ofNat']; omega
      show [fig ((UInt8.ofNat (16 * digV a + digV b)).toNat / 16), fig ((UInt8.ofNat (16 * digV a + digV b)).toNat % 16)] ++ hexL y = _
      rw [e, ih, show (16 * digV a + digV b) / 16 = digV a from by omega, show (16 * digV a + digV b) % 16 = digV b from by omega, fig_dig a hc.1, fig_dig b hc.2]
      rfl
    · cases h
theorem bytes_text {s x : ByteArray} (h : bytesV s = some x) : tx (dataL x) = s := by
  rcases bytes_size h with ⟨rfl, rfl⟩ | ⟨_, h0, l, hl, rfl, h2⟩
  · rfl
  · unfold dataL
    rw [if_neg (by omega)]
    show tx (hexL l) = s
    rw [hex_back _ _ hl]
theorem mode_text {c : ByteArray} (h : 0 ≤ modeS c) : tx (decL (modeS c).toNat) = c := by
  obtain ⟨d, h1, h2⟩ := modeS_list h
  rw [h2, ← tx_data c, h1]
  rfl
theorem glue_line {line : ByteArray} {L : List ByteArray} (h : cutB 32 line = L) : line = tx (glue 32 (L.map (fun s => s.data.toList))) := by
  rw [← h, cutB, List.map_map, show ((fun s : ByteArray => s.data.toList) ∘ ofL) = id from rfl, List.map_id, glue_segs]
theorem tx_of (b : ByteArray) : b = tx b.data.toList := (tx_data b).symm
theorem line_two {line a b : ByteArray} (h : cutB 32 line = [a, b]) : line = a ++ ⟨#[32]⟩ ++ b := by
  rw [glue_line h, tx_of a, tx_of b, show (⟨#[32]⟩ : ByteArray) = tx [32] from rfl, tx_append, tx_append]
  simp [glue, tx]
theorem line_three {line a b c : ByteArray} (h : cutB 32 line = [a, b, c]) : line = a ++ ⟨#[32]⟩ ++ b ++ ⟨#[32]⟩ ++ c := by
  rw [glue_line h, tx_of a, tx_of b, tx_of c, show (⟨#[32]⟩ : ByteArray) = tx [32] from rfl, tx_append, tx_append, tx_append, tx_append]
  simp [glue, tx]
theorem line_four {line a b c f : ByteArray} (h : cutB 32 line = [a, b, c, f]) : line = a ++ ⟨#[32]⟩ ++ b ++ ⟨#[32]⟩ ++ c ++ ⟨#[32]⟩ ++ f := by
  rw [glue_line h, tx_of a, tx_of b, tx_of c, tx_of f, show (⟨#[32]⟩ : ByteArray) = tx [32] from rfl, tx_append, tx_append, tx_append, tx_append, tx_append, tx_append]
  simp [glue, tx]
/-- What is read of a line is what the line would be written for. -/
theorem read_line {line : ByteArray} {e : Ent} (h : readL (cutB 32 line) = some e) : lineE e = line ++ ⟨#[10]⟩ := by
  match hc : cutB 32 line with
  | [] => rw [hc] at h; simp [readL] at h
  | [_] => rw [hc] at h; simp [readL] at h
  | [a, b] =>
    rw [hc] at h
    rw [line_two hc]
    simp only [readL] at h
    split at h
    · rename_i ha
      obtain ⟨p, hp, h2⟩ := Option.bind_eq_some_iff.1 h
      obtain ⟨_, rfl⟩ := chk_some h2
      rw [ha]
      simp only [lineE, lineQ, pathS_text hp]
      rfl
    · cases h
  | [a, b, c] =>
    rw [hc] at h
    rw [line_three hc]
    simp only [readL] at h
    split at h
    · rename_i ha
      obtain ⟨p, hp, h2⟩ := Option.bind_eq_some_iff.1 h
      obtain ⟨he, rfl⟩ := chk_some h2
      rw [ha]
      simp only [lineE, lineQ, pathS_text hp, mode_text (ent_mode he)]
      rfl
    · split at h
      · rename_i ha
        obtain ⟨p, hp, h2⟩ := Option.bind_eq_some_iff.1 h
        obtain ⟨he, rfl⟩ := chk_some h2
        rw [ha]
        simp only [lineE, lineQ, pathS_text hp, mode_text (ent_mode he)]
        rfl
      · split at h
        · rename_i ha
          obtain ⟨p, hp, h2⟩ := Option.bind_eq_some_iff.1 h
          obtain ⟨x, hx, h3⟩ := Option.bind_eq_some_iff.1 h2
          obtain ⟨he, rfl⟩ := chk_some h3
          rw [ha]
          simp only [lineE, lineQ, pathS_text hp, bytes_text hx]
          rfl
        · cases h
  | [a, b, c, f] =>
    rw [hc] at h
    rw [line_four hc]
    simp only [readL] at h
    split at h
    · rename_i ha
      obtain ⟨p, hp, h2⟩ := Option.bind_eq_some_iff.1 h
      obtain ⟨x, hx, h3⟩ := Option.bind_eq_some_iff.1 h2
      obtain ⟨he, rfl⟩ := chk_some h3
      rw [ha]
      simp only [lineE, lineQ, pathS_text hp, mode_text (ent_mode he), bytes_text hx]
      rfl
    · cases h
  | _ :: _ :: _ :: _ :: _ :: _ => rw [hc] at h; simp [readL] at h

end Go.Proofs.YtkidfflmbfnogaaDoor
