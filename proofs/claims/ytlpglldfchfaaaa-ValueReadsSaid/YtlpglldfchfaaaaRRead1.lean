/-
  A TEXT READ: the reference's function, by contract.
-/
import Derived.Test.YtlpglldfchfaaaaRead3
namespace Go.Proofs.Ytlpglldfchfaaaa
open Go.ChangeShapes Go.WideShapes Go.ChangeAt Go.RowKit

theorem tx_snoc (l : List UInt8) (u : UInt8) : tx l ++ tx [u] = tx (l ++ [u]) := by
  apply ByteArray.ext
  simp [tx]
theorem conv_one (W : World) (b : Int) (u : UInt8) (h : b = (u.toNat : Int)) :
    (convert 33 9 (.slice (some ⟨W.heap.size, 0, none⟩) 1 1)).run Try.prog (W.alloc (.cells #[.int .u8 b] 5)) = .ok (.string (tx [u])) (W.alloc (.cells #[.int .u8 b] 5)) := by
  have hown : (W.alloc (.cells #[.int .u8 b] 5)).ownsRow 0 5 1 (.slice (some ⟨W.heap.size, 0, none⟩) 1 1) 1 [.int .u8 b] :=
    World.ownsRow_lit W #[.int .u8 b] 1 (Nat.zero_le _) (by unfold maxLen; omega) rfl
  exact conv_row _ 0 _ [u] (by rw [h] at hown ⊢; exact hown)
theorem sp_cases {b : Int} (h : isSp b = true) : b = 39 ∨ b = 92 := by
  unfold isSp at h
  simpa using h
theorem sp_not {b : Int} (h : isSp b = false) : b ≠ 39 ∧ b ≠ 92 := by
  unfold isSp at h
  simpa using h
theorem plain_lo {b : Int} (h : b < 32) : plainB b = false := by unfold plainB; simp; omega
theorem plain_hi {b : Int} (h : 126 < b) : plainB b = false := by unfold plainB; simp; omega
theorem plain_mid {b : Int} (h : ¬ b < 32) (h2 : ¬ 126 < b) : plainB b = true := by unfold plainB; simp; omega

set_option maxHeartbeats 12800000 in
theorem rtext_c (s : ByteArray) (w : World) (hs : s.size ≤ 1000) : Calls Try.prog 12 #[.string s] w fun e w' =>
    e = .returned (textS s s.size 1 []).v ∧ Below w.heap.size w w' := by
  obtain ⟨R, hR⟩ : ∃ R, Hid (textS s s.size 1 [] = R) := ⟨_, (rfl : _ = _)⟩
  rw [hR.out]
  have hA0 : Hid ((w.alloc (.cells #[.int .i64 0, .int .i64 0, .string ⟨#[]⟩] 24)).heap[w.heap.size]? = some (.cells #[.int .i64 0, .int .i64 0, .string ⟨#[]⟩] 24)) := heap_alloc_new _ _
  have hB0 : Hid (Below w.heap.size w (w.alloc (.cells #[.int .i64 0, .int .i64 0, .string ⟨#[]⟩] 24))) := (Below.refl _ _).alloc (Nat.le_refl _) _
  have hs0 : Hid (w.heap.size + 1 ≤ (w.alloc (.cells #[.int .i64 0, .int .i64 0, .string ⟨#[]⟩] 24)).heap.size) := by show _ ≤ (w.heap.push _).size; simp
  go_enter Try.func12, Try.ntmps12
  go_wp2_with fail
  go_loopw [5, 6] (fun x i wr => ∃ (out : List UInt8) (j f : Nat) (T : ByteArray), x = .string T ∧ i = .int .i64 (j : Int) ∧ Hid (T = tx out) ∧ out.length ≤ 100 ∧ j ≤ 1000 ∧ s.size ≤ j + f ∧ Hid (textS s f j out = R) ∧
      Hid (wr.heap[w.heap.size]? = some (.cells #[.int .i64 0, .int .i64 0, .string ⟨#[]⟩] 24)) ∧ Hid (w.heap.size + 1 ≤ wr.heap.size) ∧ Hid (Below w.heap.size w wr)) (fun _ i _ => s.size + 1 - (intOf i).toNat)
  case atStart => exact ⟨[], 1, s.size, ⟨#[]⟩, rfl, rfl, (rfl : _ = _), by simp, by omega, by omega, hR, hA0, hs0, hB0⟩
  case round =>
    clear hA0 hB0 hs0 hR
    obtain ⟨out, j, f, T, rfl, rfl, hT, ho, hj9, hf, hrel, hA, hsz, hB⟩ := hrel
    have hTs : Hid (T.size = out.length) := by show _ = _; rw [hT.out, tx_size]
    by_cases hlt : j < s.size
    · have hj1 : (j : Int) < (s.size : Int) := by omega
      have hbj := byteAt_eq (s := s) (k := j) hlt
      obtain ⟨g, hg, hstep⟩ := text_step (out := out) hlt hf
      rw [hrel.out] at hstep
      replace hstep := hid0 hstep
      replace hg := hid0 hg
      have hbu : Hid (byteAt s j = ((ubyte s j).toNat : Int)) := byteAt_u s j
      generalize byteAt s j = b at *
      clear hf hrel
      by_cases h39 : b = 39
      · have hq : (b == 39) = true := by simp [h39]
        have hfin : Hid (R = ⟨2, 0, out, j + 1, 0⟩) := by have := hstep.out; rw [if_pos h39] at this; exact this
        obtain ⟨⟨g0, g1, g2⟩, r0, r1, r2⟩ := box_facts hA.out
        clear hstep hbu
        replace h39 := hid0 h39
        go_wp2
        have hRow := run_loadVar_row (P := Try.prog) _ w.heap.size 24 24 _ _ _ (heap_set3 hA.out (.int .i64 2) (.int .i64 0) (.string T)) Try.underlying24 rfl (by kernel_rfl)
        refine bodyPost_ret (v := .tuple #[.agg #[.int .i64 2, .int .i64 0, .string T], .int .i64 ((j : Int) + 1), .int .i64 0]) ((results_cell_tmp2 rfl _ _ _).trans (by simp [asAddr, hRow, Result.andThen])) rfl ⟨by rw [hfin.out]; rw [hT.out]; rfl, ((hB.out.setCell (Nat.le_refl _) _).setCell (Nat.le_refl _) _).setCell (Nat.le_refl _) _⟩
      · have hq : (b == 39) = false := by simp [h39]
        by_cases h92 : b = 92
        · have hq2 : (b == 92) = true := by simp [h92]
          have hstep1 : Hid (R = if j + 1 < s.size then (if isSp (byteAt s (j + 1)) then (if out.length = 100 then .bad 5 else textS s g (j + 2) (out ++ [ubyte s (j + 1)])) else .bad 2) else .bad 7) := by
            have := hstep.out; rw [if_neg h39, if_pos h92] at this; exact this
          replace h39 := hid0 h39
          replace h92 := hid0 h92
          clear hstep hbu
          by_cases hl2 : j + 1 < s.size
          · have hj2 : ((j : Int) + 1 == (s.size : Int)) = false := by simp; omega
            have hj3 : (j : Int) + 1 < (s.size : Int) := by omega
            have hbj2 := byteAt_eq (s := s) (k := j + 1) hl2
            have hbu : Hid (byteAt s (j + 1) = ((ubyte s (j + 1)).toNat : Int)) := byteAt_u s (j + 1)
            have htn : ((j : Int) + 1).toNat = j + 1 := by omega
            have hstep2 : Hid (R = if isSp (byteAt s (j + 1)) then (if out.length = 100 then .bad 5 else textS s g (j + 2) (out ++ [ubyte s (j + 1)])) else .bad 2) := by
              have := hstep1.out; rw [if_pos hl2] at this; exact this
            generalize byteAt s (j + 1) = b2 at *
            clear hstep1
            cases hd : isSp b2 with
            | false =>
              have hfin : Hid (R = .bad 2) := by have := hstep2.out; rw [hd] at this; exact this
              obtain ⟨m1, m2⟩ := sp_not hd
              have k1 : (b2 == 39) = false := by simp [m1]
              have k2 : (b2 == 92) = false := by simp [m2]
              have k3 : (b2 != 39) = true := by simp [m1]
              have k4 : (b2 != 92) = true := by simp [m2]
              replace m1 := hid0 m1
              replace m2 := hid0 m2
              obtain ⟨⟨g0, g1, g2⟩, r0, r1, r2⟩ := box_facts hA.out
              clear hstep2 hd hbu
              go_wp2
              have hRow := run_loadVar_row (P := Try.prog) _ w.heap.size 24 24 _ _ _ (heap_set3 hA.out (.int .i64 0) (.int .i64 0) (.string ⟨#[]⟩)) Try.underlying24 rfl (by kernel_rfl)
              refine bodyPost_ret (v := .tuple #[.agg #[.int .i64 0, .int .i64 0, .string ⟨#[]⟩], .int .i64 0, .int .i64 2]) ((results_cell_tmp2 rfl _ _ _).trans (by simp [asAddr, hRow, Result.andThen])) rfl ⟨by rw [hfin.out]; rfl, ((hB.out.setCell (Nat.le_refl _) _).setCell (Nat.le_refl _) _).setCell (Nat.le_refl _) _⟩
            | true =>
              have hstep3 : Hid (R = if out.length = 100 then .bad 5 else textS s g (j + 2) (out ++ [ubyte s (j + 1)])) := by have := hstep2.out; rw [hd] at this; exact this
              have hsc : (b2 = 39 ∧ Hid True) ∨ (b2 = 92 ∧ Hid True) := (sp_cases hd).elim (fun h => .inl ⟨h, trivial⟩) (fun h => .inr ⟨h, trivial⟩)
              clear hstep2 hd
              by_cases h100 : out.length = 100
              · have hl100 : ((T.size : Int) == 100) = true := by rw [hTs.out]; simp [h100]
                have hfin : Hid (R = .bad 5) := by have := hstep3.out; rw [if_pos h100] at this; exact this
                obtain ⟨⟨g0, g1, g2⟩, r0, r1, r2⟩ := box_facts hA.out
                replace h100 := hid0 h100
                clear hstep3 hbu
                rcases hsc with ⟨rfl, -⟩ | ⟨rfl, -⟩
                · go_wp2
                  have hRow := run_loadVar_row (P := Try.prog) _ w.heap.size 24 24 _ _ _ (heap_set3 hA.out (.int .i64 0) (.int .i64 0) (.string ⟨#[]⟩)) Try.underlying24 rfl (by kernel_rfl)
                  refine bodyPost_ret (v := .tuple #[.agg #[.int .i64 0, .int .i64 0, .string ⟨#[]⟩], .int .i64 0, .int .i64 5]) ((results_cell_tmp2 rfl _ _ _).trans (by simp [asAddr, hRow, Result.andThen])) rfl ⟨by rw [hfin.out]; rfl, ((hB.out.setCell (Nat.le_refl _) _).setCell (Nat.le_refl _) _).setCell (Nat.le_refl _) _⟩
                · go_wp2
                  have hRow := run_loadVar_row (P := Try.prog) _ w.heap.size 24 24 _ _ _ (heap_set3 hA.out (.int .i64 0) (.int .i64 0) (.string ⟨#[]⟩)) Try.underlying24 rfl (by kernel_rfl)
                  refine bodyPost_ret (v := .tuple #[.agg #[.int .i64 0, .int .i64 0, .string ⟨#[]⟩], .int .i64 0, .int .i64 5]) ((results_cell_tmp2 rfl _ _ _).trans (by simp [asAddr, hRow, Result.andThen])) rfl ⟨by rw [hfin.out]; rfl, ((hB.out.setCell (Nat.le_refl _) _).setCell (Nat.le_refl _) _).setCell (Nat.le_refl _) _⟩
              · have hl100 : ((T.size : Int) == 100) = false := by rw [hTs.out]; simp; omega
                have hnext : Hid (textS s g (j + 2) (out ++ [ubyte s (j + 1)]) = R) := by have := hstep3.out; rw [if_neg h100] at this; exact this.symm
                have hnf : Hid (s.size ≤ j + 2 + g) := by have := hg.out; show _ ≤ _; omega
                clear hstep3
                rcases hsc with ⟨rfl, -⟩ | ⟨rfl, -⟩
                · have hcv := conv_one wr (39) (ubyte s (j + 1)) hbu.out
                  have happ : Hid (T ++ tx [ubyte s (j + 1)] = tx (out ++ [ubyte s (j + 1)])) := by show _ = _; rw [hT.out, tx_snoc]
                  have hfl : Hid (out.length < 100) := by show _ < _; omega
                  have hB3 : Hid (Below w.heap.size w (wr.alloc (.cells #[.int .u8 (39)] 5))) := hB.out.alloc (by have := hsz.out; omega) _
                  have hA3 : Hid ((wr.alloc (.cells #[.int .u8 (39)] 5)).heap[w.heap.size]? = some (.cells #[.int .i64 0, .int .i64 0, .string ⟨#[]⟩] 24)) := (heap_alloc_old _ _ (by have := hsz.out; omega)).trans hA.out
                  have hs3 : Hid (w.heap.size + 1 ≤ (wr.alloc (.cells #[.int .u8 (39)] 5)).heap.size) := by have := hsz.out; show _ ≤ (wr.heap.push _).size; simp; omega
                  have hts1 : ¬ 9223372036854775807 < T.size + (tx [ubyte s (j + 1)]).size := by have := hTs.out; rw [tx_size]; simp; omega
                  generalize tx [ubyte s (j + 1)] = tu at *
                  have hTs2 : (T.size : Int) ≤ 100 := by have := hTs.out; omega
                  clear hbu hA hB hsz
                  go_wp2
                  go_roundw
                  case rel => exact ⟨out ++ [ubyte s (j + 1)], j + 2, g, _, rfl, by first | rfl | go_num, happ, by rw [List.length_append]; have := hfl.out; simp; omega, by omega, hnf.out, hnext, hA3, hs3, hB3⟩
                  case measure => simp [intOf]; omega
                · have hcv := conv_one wr (92) (ubyte s (j + 1)) hbu.out
                  have happ : Hid (T ++ tx [ubyte s (j + 1)] = tx (out ++ [ubyte s (j + 1)])) := by show _ = _; rw [hT.out, tx_snoc]
                  have hfl : Hid (out.length < 100) := by show _ < _; omega
                  have hB3 : Hid (Below w.heap.size w (wr.alloc (.cells #[.int .u8 (92)] 5))) := hB.out.alloc (by have := hsz.out; omega) _
                  have hA3 : Hid ((wr.alloc (.cells #[.int .u8 (92)] 5)).heap[w.heap.size]? = some (.cells #[.int .i64 0, .int .i64 0, .string ⟨#[]⟩] 24)) := (heap_alloc_old _ _ (by have := hsz.out; omega)).trans hA.out
                  have hs3 : Hid (w.heap.size + 1 ≤ (wr.alloc (.cells #[.int .u8 (92)] 5)).heap.size) := by have := hsz.out; show _ ≤ (wr.heap.push _).size; simp; omega
                  have hts1 : ¬ 9223372036854775807 < T.size + (tx [ubyte s (j + 1)]).size := by have := hTs.out; rw [tx_size]; simp; omega
                  generalize tx [ubyte s (j + 1)] = tu at *
                  have hTs2 : (T.size : Int) ≤ 100 := by have := hTs.out; omega
                  clear hbu hA hB hsz
                  go_wp2
                  go_roundw
                  case rel => exact ⟨out ++ [ubyte s (j + 1)], j + 2, g, _, rfl, by first | rfl | go_num, happ, by rw [List.length_append]; have := hfl.out; simp; omega, by omega, hnf.out, hnext, hA3, hs3, hB3⟩
                  case measure => simp [intOf]; omega
          · have hl3 : Hid (j + 1 = s.size) := by show _ = _; omega
            have hj2 : ((j : Int) + 1 == (s.size : Int)) = true := by have := hl3.out; simp; omega
            have hfin : Hid (R = .bad 7) := by have := hstep1.out; rw [if_neg hl2] at this; exact this
            obtain ⟨⟨g0, g1, g2⟩, r0, r1, r2⟩ := box_facts hA.out
            clear hstep1 hl2
            go_wp2
            have hRow := run_loadVar_row (P := Try.prog) _ w.heap.size 24 24 _ _ _ (heap_set3 hA.out (.int .i64 0) (.int .i64 0) (.string ⟨#[]⟩)) Try.underlying24 rfl (by kernel_rfl)
            refine bodyPost_ret (v := .tuple #[.agg #[.int .i64 0, .int .i64 0, .string ⟨#[]⟩], .int .i64 0, .int .i64 7]) ((results_cell_tmp2 rfl _ _ _).trans (by simp [asAddr, hRow, Result.andThen])) rfl ⟨by rw [hfin.out]; rfl, ((hB.out.setCell (Nat.le_refl _) _).setCell (Nat.le_refl _) _).setCell (Nat.le_refl _) _⟩
        · have hq2 : (b == 92) = false := by simp [h92]
          have hstep1 : Hid (R = if plainB b then (if out.length = 100 then .bad 5 else textS s g (j + 1) (out ++ [ubyte s j])) else .bad 2) := by
            have := hstep.out; rw [if_neg h39, if_neg h92] at this; exact this
          replace h39 := hid0 h39
          replace h92 := hid0 h92
          clear hstep
          by_cases hlo : b < 32
          · have hfin : Hid (R = .bad 2) := by have := hstep1.out; rw [plain_lo hlo] at this; exact this
            obtain ⟨⟨g0, g1, g2⟩, r0, r1, r2⟩ := box_facts hA.out
            clear hstep1 hbu
            go_wp2
            have hRow := run_loadVar_row (P := Try.prog) _ w.heap.size 24 24 _ _ _ (heap_set3 hA.out (.int .i64 0) (.int .i64 0) (.string ⟨#[]⟩)) Try.underlying24 rfl (by kernel_rfl)
            refine bodyPost_ret (v := .tuple #[.agg #[.int .i64 0, .int .i64 0, .string ⟨#[]⟩], .int .i64 0, .int .i64 2]) ((results_cell_tmp2 rfl _ _ _).trans (by simp [asAddr, hRow, Result.andThen])) rfl ⟨by rw [hfin.out]; rfl, ((hB.out.setCell (Nat.le_refl _) _).setCell (Nat.le_refl _) _).setCell (Nat.le_refl _) _⟩
          · by_cases hhi : 126 < b
            · have hfin : Hid (R = .bad 2) := by have := hstep1.out; rw [plain_hi hhi] at this; exact this
              obtain ⟨⟨g0, g1, g2⟩, r0, r1, r2⟩ := box_facts hA.out
              clear hstep1 hbu
              go_wp2
              have hRow := run_loadVar_row (P := Try.prog) _ w.heap.size 24 24 _ _ _ (heap_set3 hA.out (.int .i64 0) (.int .i64 0) (.string ⟨#[]⟩)) Try.underlying24 rfl (by kernel_rfl)
              refine bodyPost_ret (v := .tuple #[.agg #[.int .i64 0, .int .i64 0, .string ⟨#[]⟩], .int .i64 0, .int .i64 2]) ((results_cell_tmp2 rfl _ _ _).trans (by simp [asAddr, hRow, Result.andThen])) rfl ⟨by rw [hfin.out]; rfl, ((hB.out.setCell (Nat.le_refl _) _).setCell (Nat.le_refl _) _).setCell (Nat.le_refl _) _⟩
            · have hstep3 : Hid (R = if out.length = 100 then .bad 5 else textS s g (j + 1) (out ++ [ubyte s j])) := by have := hstep1.out; rw [plain_mid hlo hhi] at this; exact this
              clear hstep1
              by_cases h100 : out.length = 100
              · have hl100 : ((T.size : Int) == 100) = true := by rw [hTs.out]; simp [h100]
                have hfin : Hid (R = .bad 5) := by have := hstep3.out; rw [if_pos h100] at this; exact this
                obtain ⟨⟨g0, g1, g2⟩, r0, r1, r2⟩ := box_facts hA.out
                replace h100 := hid0 h100
                clear hstep3 hbu
                go_wp2
                have hRow := run_loadVar_row (P := Try.prog) _ w.heap.size 24 24 _ _ _ (heap_set3 hA.out (.int .i64 0) (.int .i64 0) (.string ⟨#[]⟩)) Try.underlying24 rfl (by kernel_rfl)
                refine bodyPost_ret (v := .tuple #[.agg #[.int .i64 0, .int .i64 0, .string ⟨#[]⟩], .int .i64 0, .int .i64 5]) ((results_cell_tmp2 rfl _ _ _).trans (by simp [asAddr, hRow, Result.andThen])) rfl ⟨by rw [hfin.out]; rfl, ((hB.out.setCell (Nat.le_refl _) _).setCell (Nat.le_refl _) _).setCell (Nat.le_refl _) _⟩
              · have hl100 : ((T.size : Int) == 100) = false := by rw [hTs.out]; simp; omega
                have hnext : Hid (textS s g (j + 1) (out ++ [ubyte s j]) = R) := by have := hstep3.out; rw [if_neg h100] at this; exact this.symm
                have hnf : Hid (s.size ≤ j + 1 + g) := by have := hg.out; show _ ≤ _; omega
                clear hstep3
                have hcv := conv_one wr (b) (ubyte s (j)) hbu.out
                have happ : Hid (T ++ tx [ubyte s (j)] = tx (out ++ [ubyte s (j)])) := by show _ = _; rw [hT.out, tx_snoc]
                have hfl : Hid (out.length < 100) := by show _ < _; omega
                have hB3 : Hid (Below w.heap.size w (wr.alloc (.cells #[.int .u8 (b)] 5))) := hB.out.alloc (by have := hsz.out; omega) _
                have hA3 : Hid ((wr.alloc (.cells #[.int .u8 (b)] 5)).heap[w.heap.size]? = some (.cells #[.int .i64 0, .int .i64 0, .string ⟨#[]⟩] 24)) := (heap_alloc_old _ _ (by have := hsz.out; omega)).trans hA.out
                have hs3 : Hid (w.heap.size + 1 ≤ (wr.alloc (.cells #[.int .u8 (b)] 5)).heap.size) := by have := hsz.out; show _ ≤ (wr.heap.push _).size; simp; omega
                have hts1 : ¬ 9223372036854775807 < T.size + (tx [ubyte s (j)]).size := by have := hTs.out; rw [tx_size]; simp; omega
                generalize tx [ubyte s (j)] = tu at *
                have hTs2 : (T.size : Int) ≤ 100 := by have := hTs.out; omega
                clear hbu hA hB hsz
                go_wp2
                go_roundw
                case rel => exact ⟨out ++ [ubyte s (j)], j + 1, g, _, rfl, by first | rfl | go_num, happ, by rw [List.length_append]; have := hfl.out; simp; omega, by omega, hnf.out, hnext, hA3, hs3, hB3⟩
                case measure => simp [intOf]; omega
    · have hj1 : ¬ (j : Int) < (s.size : Int) := by omega
      have hfin : Hid (R = .bad 7) := by show _ = _; rw [← hrel.out]; exact text_end hlt f out
      obtain ⟨⟨g0, g1, g2⟩, r0, r1, r2⟩ := box_facts hA.out
      clear hrel
      go_wp2
      have hRow := run_loadVar_row (P := Try.prog) _ w.heap.size 24 24 _ _ _ (heap_set3 hA.out (.int .i64 0) (.int .i64 0) (.string ⟨#[]⟩)) Try.underlying24 rfl (by kernel_rfl)
      refine bodyPost_ret (v := .tuple #[.agg #[.int .i64 0, .int .i64 0, .string ⟨#[]⟩], .int .i64 0, .int .i64 7]) ((results_cell_tmp2 rfl _ _ _).trans (by simp [asAddr, hRow, Result.andThen])) rfl ⟨by rw [hfin.out]; rfl, ((hB.out.setCell (Nat.le_refl _) _).setCell (Nat.le_refl _) _).setCell (Nat.le_refl _) _⟩
end Go.Proofs.Ytlpglldfchfaaaa
