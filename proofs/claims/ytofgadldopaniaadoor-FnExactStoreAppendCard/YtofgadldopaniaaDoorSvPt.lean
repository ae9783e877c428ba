/- The program's pieces of a text (a checkpoint's): how they are cut, and what is written for them. -/
import Derived.Test.YtofgadldopaniaaDoorSvV
namespace Go.Proofs.YtofgadldopaniaaDoor
open Go.RowKit

theorem m_textPiece (s : ByteArray) (w : World) : (Go.method 203 60 (.string s) "loop.example/changetrail/impl.ahead").run Tryd.prog w = .ok (85, .string s) w := by kernel_rfl
def ahd_textPiece : ByteArray := ⟨#[]⟩

set_option maxHeartbeats 400000 in
theorem ahead_textPiece (s : ByteArray) (w : World) : Calls Tryd.prog 85 #[.string s] w fun e w' => e = .returned (.string ⟨#[]⟩) ∧ w' = w := by
  go_enter Tryd.func85, Tryd.ntmps85
  go_wp2
  go_ret
  exact ⟨rfl, rfl⟩

set_option maxHeartbeats 400000 in
theorem roomOf_textPiece (w : World) : Calls Tryd.prog 56 #[] w fun e w' => e = .returned (.int .i64 64) ∧ w' = w := by
  have hm := m_textPiece
  have HA := hide ahead_textPiece
  go_enter Tryd.func56, Tryd.ntmps56
  go_wp2_with (go_at_call 85; refine (HA.out _ _).mono ?_; rintro e1 w1 ⟨rfl, rfl⟩)
  go_ret
  exact ⟨rfl, rfl⟩

theorem info_textPiece : ∃ i, Tryd.prog.info? 60 = some i ∧ i.zero = some (.string ⟨#[]⟩) ∧ i.size = 1 ∧ i.bytes = 16 := by
  have h : (Tryd.prog.info? 60).map (fun i => (i.zero, i.size, i.bytes)) = some (some (.string ⟨#[]⟩), 1, 16) := by kernel_rfl
  obtain ⟨i, hi, he⟩ := Option.map_eq_some_iff.1 h
  simp only [Prod.mk.injEq] at he
  exact ⟨i, hi, he⟩

/-- The pieces' cells. -/
def cut_textPiece (s : ByteArray) (n : Nat) : List Value := (List.range n).map fun i => .string (piece s 64 i)
theorem cut_textPiece_succ (s : ByteArray) (n : Nat) : cut_textPiece s (n + 1) = cut_textPiece s n ++ [.string (piece s 64 n)] := by simp [cut_textPiece, List.range_succ]
theorem cut_textPiece_length (s : ByteArray) (n : Nat) : (cut_textPiece s n).length = n := by simp [cut_textPiece]
theorem cut_textPiece_at (s : ByteArray) (n i : Nat) (h : i < n) : (cut_textPiece s n)[i]? = some (.string (piece s 64 i)) := by simp [cut_textPiece, h]

theorem cell_one_textPiece {W : World} {A : Array Value} {t : TypeId} {x : Value} (h : A = #[x]) : ∀ j u, [x][j]? = some u → (W.alloc (.cells A t)).cell? ((⟨W.heap.size, 0, none⟩ : Addr).add j) = some u := by
  subst h
  intro j u hu
  have e : Addr.add ⟨W.heap.size, 0, none⟩ j = ⟨W.heap.size, j, none⟩ := by unfold Addr.add; split <;> simp_all
  rw [e]
  rcases j with _ | j
  · simp at hu; subst hu; exact (Blk.new W #[x] t).cell 0 _ rfl
  · simp at hu

set_option maxHeartbeats 4000000 in
set_option maxRecDepth 100000 in
theorem cutUp_textPiece (s : ByteArray) (w : World) (hs : s.size ≤ 1048576) :
    Calls Tryd.prog 53 #[.string s] w fun e w' => ∃ v, e = .returned v ∧ w'.ownsRow w.heap.size 60 1 v ((s.size + 63) / 64) (cut_textPiece s ((s.size + 63) / 64)) ∧ Below w.heap.size w w' := by
  obtain ⟨iR, hiR', hzR, hsR, hbR⟩ := info_textPiece
  have hiR := hide hiR'
  clear hiR'
  have HRo := hide roomOf_textPiece
  go_enter Tryd.func53, Tryd.ntmps53
  go_wp2_with (go_at_call 56; refine (HRo.out _).mono ?_; rintro e1 w ⟨rfl, rfl⟩)
  go_loopw [4, 5] (fun o i wr => ∃ (ov : Value) (k : Nat), ov = o ∧ (k = 0 ∨ (k - 1) * 64 < s.size) ∧ k * 64 < s.size + 64 ∧ i = .int .i64 (k * 64 : Nat) ∧ Hid (wr.ownsRow w.heap.size 60 1 ov k (cut_textPiece s k)) ∧ Hid (Below w.heap.size w wr)) (fun _ i _ => s.size + 64 - (intOf i).toNat)
  case atStart => exact ⟨_, 0, rfl, .inl rfl, by omega, rfl, World.ownsRow_nil _ _ _ _, Below.refl _ _⟩
  case round =>
    obtain ⟨ov, k, hov, hk0, hk1, rfl, HR, HB⟩ := hrel
    subst hov
    have hsz : w.heap.size ≤ wr.heap.size := HB.out.size
    have HR2 : Hid (∀ o, (wr.alloc o).ownsRow w.heap.size 60 1 ov k (cut_textPiece s k)) := fun o => HR.out.alloc o
    have hxl := cut_textPiece_length s k
    have hkr : ((k * 64 : Nat) : Int) = (k : Int) * 64 := by omega
    by_cases hlt : k * 64 < s.size
    · have HP : Hid (piece s 64 k = s.extract (k * 64) (min (k * 64 + 64) s.size)) := rfl
      have HS := hide (cut_textPiece_succ s k)
      generalize hn : k * 64 = n at *
      have HN := hide hn
      clear hn hkr
      rcases (by omega : n + 64 ≤ s.size ∨ s.size < n + 64) with h64 | h64
      · have e : min (n + 64) s.size = n + 64 := by omega
        rw [e] at HP
        clear e
        go_wp2_with (first
          | (at_builtin; refine wpList_append_own_at _ rfl _ _ 67 rfl w.heap.size 60 iR (.string ⟨#[]⟩) 1 16 Tryd.underlying67 hiR.out hzR hsR hbR rfl (by decide) ov k (cut_textPiece s k) rfl (HR2.out _) ⟨_, 0, none⟩ 1 1 [.string (s.extract n (n + 64))] rfl (by simp) (cell_one_textPiece rfl) (by simp [Value.oneCell']) (by unfold maxLen; omega) (by omega) (by simp; omega) ?_; intro v' w5 hown hgrow hnil hat; have HO := hide hown; have HG := hide hgrow; clear hown hgrow hnil hat))
        go_roundw
        case rel =>
          refine ⟨v', k + 1, rfl, .inr (by have := HN.out; omega), by have := HN.out; omega, by have := HN.out; go_num, ?_, (HB.out.alloc HB.out.size _).grown HG.out (by simp; omega) (fun j hj => by have := row_base HR.out j hj; omega)⟩
          show World.ownsRow _ _ _ _ _ _ _
          rw [HS.out, HP.out]
          exact HO.out
        case measure => simp [intOf]; omega
      · have e : min (n + 64) s.size = s.size := by omega
        rw [e] at HP
        clear e
        go_wp2_with (first
          | (at_builtin; refine wpList_append_own_at _ rfl _ _ 67 rfl w.heap.size 60 iR (.string ⟨#[]⟩) 1 16 Tryd.underlying67 hiR.out hzR hsR hbR rfl (by decide) ov k (cut_textPiece s k) rfl (HR2.out _) ⟨_, 0, none⟩ 1 1 [.string (s.extract n (s.size))] rfl (by simp) (cell_one_textPiece rfl) (by simp [Value.oneCell']) (by unfold maxLen; omega) (by omega) (by simp; omega) ?_; intro v' w5 hown hgrow hnil hat; have HO := hide hown; have HG := hide hgrow; clear hown hgrow hnil hat))
        go_roundw
        case rel =>
          refine ⟨v', k + 1, rfl, .inr (by have := HN.out; omega), by have := HN.out; omega, by have := HN.out; go_num, ?_, (HB.out.alloc HB.out.size _).grown HG.out (by simp; omega) (fun j hj => by have := row_base HR.out j hj; omega)⟩
          show World.ownsRow _ _ _ _ _ _ _
          rw [HS.out, HP.out]
          exact HO.out
        case measure => simp [intOf]; omega
    · have hk : k = (s.size + 63) / 64 := by
        rcases hk0 with rfl | h
        · omega
        · omega
      have HK := hide hk
      clear hk
      generalize hn : k * 64 = n at *
      clear hn hkr
      go_wp2
      go_ret
      exact ⟨_, rfl, by rw [← HK.out]; exact HR.out, HB.out⟩

set_option maxHeartbeats 4000000 in
set_option maxRecDepth 100000 in
theorem pieceWrites_textPiece (s : ByteArray) (first : Nat) (w : World) (hs : s.size ≤ 1048576) (hf : first ≤ 1048576) :
    Calls Tryd.prog 45 #[.string s, .int .i64 (first : Int)] w fun e w' => ∃ v, e = .returned v ∧ RwRow w' w.heap.size v (wrs (fun i => ⟨#[]⟩ ++ piece s 64 i) first ((s.size + 63) / 64)) ∧ Below w.heap.size w w' := by
  obtain ⟨iR, hiR', hzR, hsR, hbR⟩ := info_R
  have hiR := hide hiR'
  clear hiR'
  have HCu := hide (cutUp_textPiece s w hs)
  have hm := m_textPiece
  have HA := hide ahead_textPiece
  have HAt := hide (cut_textPiece_at s ((s.size + 63) / 64))
  have hN : (s.size + 63) / 64 ≤ 20000 := by omega
  have hps := piece_size s 64
  generalize (s.size + 63) / 64 = N at *
  generalize hF : piece s 64 = F at *
  generalize cut_textPiece s N = C at *
  clear hF
  go_enter Tryd.func45, Tryd.ntmps45
  go_wp2_with (go_at_call 53; refine HCu.out.mono ?_; rintro e1 w1 ⟨v1, rfl, hR1, hB1⟩; have HB1 := hide hB1; have HR1 := hide hR1; obtain ⟨a1, c1, rfl⟩ := ownsRow_form hR1; clear hR1 hB1)
  go_loopw [5, 11] (fun o i wr => ∃ (ov : Value) (k : Nat), ov = o ∧ k ≤ N ∧ i = .int .i64 k ∧ Hid (RwRow wr w1.heap.size ov (wrs (fun i => ⟨#[]⟩ ++ F i) first k)) ∧ Hid (Below w1.heap.size w1 wr)) (fun _ i _ => N - (intOf i).toNat)
  case atStart => exact ⟨_, 0, rfl, Nat.zero_le _, rfl, RwRow.nil _ _, Below.refl _ _⟩
  case round =>
    obtain ⟨ov, k, hov, hk, rfl, HR, HB⟩ := hrel
    subst hov
    have hsz : w1.heap.size ≤ wr.heap.size := HB.out.size
    have HR2 : Hid (∀ o, (wr.alloc o).ownsRow w1.heap.size 42 2 ov k (rawC (wrs (fun i => ⟨#[]⟩ ++ F i) first k))) := fun o => by
      have := HR.out
      unfold RwRow at this
      rw [wrs_length] at this
      exact this.alloc o
    by_cases hlt : k < N
    · have hltI : (k : Int) < (N : Int) := by omega
      have hxl : (rawC (wrs (fun i => ⟨#[]⟩ ++ F i) first k)).length = k * 2 := by rw [rawC_length, wrs_length]
      obtain ⟨b, cap, hv, hb1, hb2⟩ := ownsRow_at HR1.out (by omega)
      simp only [Value.slice.injEq, true_and] at hv
      obtain ⟨rfl, rfl⟩ := hv
      have c0 : wr.cell? ⟨b, k, none⟩ = some (.string (F k)) := by
        rw [HB.out.cell (p := ⟨b, k, none⟩) hb2]
        have := HR1.out.cellAt k (by omega)
        rw [this]
        exact HAt.out k hlt
      have z1 := hps k
      have hsz1 : (⟨#[]⟩ : ByteArray).size = 0 := rfl
      have z2 : ¬ 9223372036854775807 < (⟨#[]⟩ : ByteArray).size + (F k).size := by rw [hsz1]; omega
      have HX : Hid ((fun i => (⟨#[]⟩ : ByteArray) ++ F i) k = ⟨#[]⟩ ++ F k) := rfl
      have HSu := hide (wrs_succ (fun i => ⟨#[]⟩ ++ F i) first k)
      have HLn := hide (wrs_length (fun i => ⟨#[]⟩ ++ F i) first k)
      generalize wrs (fun i => ⟨#[]⟩ ++ F i) first k = L0 at *
      go_wp2_with (first
        | (go_at_call 85; refine (HA.out _ _).mono ?_; rintro e3 w3 ⟨rfl, rfl⟩)
        | (at_builtin; refine wpList_append_own_at _ rfl _ _ 22 rfl w1.heap.size 42 iR (.agg zeroR) 2 24 Tryd.underlying22 hiR.out hzR hsR hbR rfl (by decide) ov k (rawC L0) rfl (HR2.out _) ⟨_, 0, none⟩ 1 1 [.int .i64 ((first : Int) + (k : Int)), .string (⟨#[]⟩ ++ F k)] rfl (by simp) (cell_two_at rfl) (by simp [Value.oneCell']) (by unfold maxLen; omega) (by omega) (by simp; omega) ?_; intro v' w5 hown hgrow hnil hat; have HO := hide hown; have HG := hide hgrow; clear hown hgrow hnil hat))
      go_roundw
      case rel =>
        refine ⟨v', k + 1, rfl, by omega, by go_num, ?_, (HB.out.alloc HB.out.size _).grown HG.out (by simp; omega) (fun j hj => by have := row_base HR.out j hj; omega)⟩
        show RwRow _ _ _ _
        rw [HSu.out]
        exact RwRow.snoc HLn.out.symm (by have := HO.out; rwa [← Int.natCast_add] at this)
      case measure => simp [intOf]; omega
    · have hkN : k = N := by omega
      subst hkN
      go_wp2
      go_ret
      refine ⟨_, rfl, ?_, HB1.out.trans (HB.out.mono HB1.out.size)⟩
      have h1 := HR.out
      have h2 := HB1.out.size
      unfold RwRow World.ownsRow at h1 ⊢
      refine ⟨h1.1, ?_⟩
      rcases h1.2 with h | ⟨g, cap, cur, q1, q2, q3⟩
      · exact .inl h
      · exact .inr ⟨g, cap, cur, q1, by omega, q3⟩

end Go.Proofs.YtofgadldopaniaaDoor
