/-
  A TEXT READ: the reference's function, by contract.
-/
import Derived.Test.YtddmdieeljjamaaDoorRead4
namespace Go.Proofs.YtddmdieeljjamaaDoor
open Go.ChangeShapes Go.WideShapes Go.ChangeAt Go.RowKit

theorem tx_snoc (l : List UInt8) (u : UInt8) : tx l ++ tx [u] = tx (l ++ [u]) := by
  apply ByteArray.ext
  simp [tx]
theorem conv_one (W : World) (b : Int) (u : UInt8) (h : b = (u.toNat : Int)) :
    (convert 52 9 (.slice (some ⟨W.heap.size, 0, none⟩) 1 1)).run Tryd.prog (W.alloc (.cells #[.int .u8 b] 5)) = .ok (.string (tx [u])) (W.alloc (.cells #[.int .u8 b] 5)) := by
  have hown : (W.alloc (.cells #[.int .u8 b] 5)).ownsRow 0 5 1 (.slice (some ⟨W.heap.size, 0, none⟩) 1 1) 1 [.int .u8 b] :=
    World.ownsRow_lit W #[.int .u8 b] 1 (Nat.zero_le _) (by unfold maxLen; omega) rfl
  exact conv_row _ 0 _ [u] (by rw [h] at hown ⊢; exact hown)
theorem sp_cases {b : Int} (h : isSp b = true) : b = 39 ∨ b = 92 := by
  unfold isSp at h
  simpa using h
theorem sp_not {b : Int} (h : isSp b = false) : b ≠ 39 ∧ b ≠ 92 := by
  unfold isSp at h
  simpa using h
theorem plain_lo {b : Int} (h : b < 32) : plainB b = false := by unfold plainB; simp; omega
theorem plain_hi {b : Int} (h : 126 < b) : plainB b = false := by unfold plainB; simp; omega
theorem plain_mid {b : Int} (h : ¬ b < 32) (h2 : ¬ 126 < b) : plainB b = true := by unfold plainB; simp; omega

set_option maxHeartbeats 12800000 in
theorem rtext_c (s : ByteArray) (w : World) (hs : s.size ≤ 1000) : Calls Tryd.prog 40 #[.string s] w fun e w' =>
    e = .returned (textS s s.size 1 []).v ∧ Below w.heap.size w w' := by
  obtain ⟨R, hR⟩ : ∃ R, Hid (textS s s.size 1 [] = R) := ⟨_, (rfl : _ = _)⟩
  rw [hR.out]
  have hA0 : Hid ((w.alloc (.cells #[.int .i64 0, .int .i64 0, .string ⟨#[]⟩] 33)).heap[w.heap.size]? = some (.cells #[.int .i64 0, .int .i64 0, .string ⟨#[]⟩] 33)) := heap_alloc_new _ _
  have hB0 : Hid (Below w.heap.size w (w.alloc (.cells #[.int .i64 0, .int .i64 0, .string ⟨#[]⟩] 33))) := (Below.refl _ _).alloc (Nat.le_refl _) _
  have hs0 : Hid (w.heap.size + 1 ≤ (w.alloc (.cells #[.int .i64 0, .int .i64 0, .string ⟨#[]⟩] 33)).heap.size) := by show _ ≤ (w.heap.push _).size; simp
  go_enter Tryd.func40, Tryd.ntmps40
  go_wp2_with fail
  go_loopw [5, 6] (fun x i wr => ∃ (out : List UInt8) (j f : Nat) (T : ByteArray), x = .string T ∧ i = .int .i64 (j : Int) ∧ Hid (T = tx out) ∧ out.length ≤ 100 ∧ j ≤ 1000 ∧ s.size ≤ j + f ∧ Hid (textS s f j out = R) ∧
      Hid (wr.heap[w.heap.size]? = some (.cells #[.int .i64 0, .int .i64 0, .string ⟨#[]⟩] 33)) ∧ Hid (w.heap.size + 1 ≤ wr.heap.size) ∧ Hid (Below w.heap.size w wr)) (fun _ i _ => s.size + 1 - (intOf i).toNat)
  case atStart => exact ⟨[], 1, s.size, ⟨#[]⟩, rfl, rfl, (rfl : _ = _), by simp, by omega, by omega, hR, hA0, hs0, hB0⟩
  case round =>
    clear hA0 hB0 hs0 hR
    obtain ⟨out, j, f, T, rfl, rfl, hT, ho, hj9, hf, hrel, hA, hsz, hB⟩ := hrel
    have hTs : Hid (T.size = out.length) := by show _ = _; rw [hT.out, tx_size]
    by_cases hlt : j < s.size
    · have hj1 : (j : Int) < (s.size : Int) := by omega
      have hbj := byteAt_eq (s := s) (k := j) hlt
      obtain ⟨g, hg, hstep⟩ := text_step (out := out) hlt hf
      rw [hrel.out] at hstep
      replace hstep := hid0 hstep
      replace hg := hid0 hg
      have hbu : Hid (byteAt s j = ((ubyte s j).toNat : Int)) := byteAt_u s j
      generalize byteAt s j = b at *
      clear hf hrel
      by_cases h39 : b = 39
      · have hq : (b == 39) = true := by simp [h39]
        have hfin : Hid (R = ⟨2, 0, out, j + 1, 0⟩) := by have := hstep.out; rw [if_pos h39] at this; exact this
        obtain ⟨⟨g0, g1, g2⟩, r0, r1, r2⟩ := box_facts hA.out
        clear hstep hbu
        replace h39 := hid0 h39
        go_wp2
        have hRow := run_loadVar_row (P := Tryd.prog) _ w.heap.size 33 33 _ _ _ (heap_set3 hA.out (.int .i64 2) (.int .i64 0) (.string T)) Tryd.underlying33 rfl (by kernel_rfl)
        refine bodyPost_ret (v := .tuple #[.agg #[.int .i64 2, .int .i64 0, .string T], .int .i64 ((j : Int) + 1), .int .i64 0]) ((results_cell_tmp2 rfl _ _ _).trans (by simp [asAddr, hRow, Result.andThen])) rfl ⟨by rw [hfin.out]; rw [hT.out]; rfl, ((hB.out.setCell (Nat.le_refl _) _).setCell (Nat.le_refl _) _).setCell (Nat.le_refl _) _⟩
      · have hq : (b == 39) = false := by simp [h39]
        by_cases h92 : b = 92
        · have hq2 : (b == 92) = true := by simp [h92]
          have hstep1 : Hid (R = if j + 1 < s.size then (if isSp (byteAt s (j + 1)) then (if out.length = 100 then .bad 5 else textS s g (j + 2) (out ++ [ubyte s (j + 1)])) else .bad 2) else .bad 7) := by
            have := hstep.out; rw [if_neg h39, if_pos h92] at this; exact this
          replace h39 := hid0 h39
          replace h92 := hid0 h92
          clear hstep hbu
          by_cases hl2 : j + 1 < s.size
          · have hj2 : ((j : Int) + 1 == (s.size : Int)) = false := by simp; omega
            have hj3 : (j : Int) + 1 < (s.size : Int) := by omega
            have hbj2 := byteAt_eq (s := s) (k := j + 1) hl2
            have hbu : Hid (byteAt s (j + 1) = ((ubyte s (j + 1)).toNat : Int)) := byteAt_u s (j + 1)
            have htn : ((j : Int) + 1).toNat = j + 1 := by omega
            have hstep2 : Hid (R = if isSp (byteAt s (j + 1)) then (if out.length = 100 then .bad 5 else textS s g (j + 2) (out ++ [ubyte s (j + 1)])) else .bad 2) := by
              have := hstep1.out; rw [if_pos hl2] at this; exact this
            generalize byteAt s (j + 1) = b2 at *
            clear hstep1
            cases hd : isSp b2 with
            | false =>
              have hfin : Hid (R = .bad 2) := by have := hstep2.out; rw [hd] at this; exact this
              obtain ⟨m1, m2⟩ := sp_not hd
              have k1 : (b2 == 39) = false := by simp [m1]
              have k2 : (b2 == 92) = false := by simp [m2]
              have k3 : (b2 != 39) = true := by simp [m1]
              have k4 : (b2 != 92) = true := by simp [m2]
              replace m1 := hid0 m1
              replace m2 := hid0 m2
              obtain ⟨⟨g0, g1, g2⟩, r0, r1, r2⟩ := box_facts hA.out
              clear hstep2 hd hbu
              go_wp2
              have hRow := run_loadVar_row (P := Tryd.prog) _ w.heap.size 33 33 _ _ _ (heap_set3 hA.out (.int .i64 0) (.int .i64 0) (.string ⟨#[]⟩)) Tryd.underlying33 rfl (by kernel_rfl)
              refine bodyPost_ret (v := .tuple #[.agg #[.int .i64 0, .int .i64 0, .string ⟨#[]⟩], .int .i64 0, .int .i64 2]) ((results_cell_tmp2 rfl _ _ _).trans (by simp [asAddr, hRow, Result.andThen])) rfl ⟨by rw [hfin.out]; rfl, ((hB.out.setCell (Nat.le_refl _) _).setCell (Nat.le_refl _) _).setCell (Nat.le_refl _) _⟩
            | true =>
              have hstep3 : Hid (R = if out.length = 100 then .bad 5 else textS s g (j + 2) (out ++ [ubyte s (j + 1)])) := by have := hstep2.out; rw [hd] at this; exact this
              have hsc : (b2 = 39 ∧ Hid True) ∨ (b2 = 92 ∧ Hid True) := (sp_cases hd).elim (fun h => .inl ⟨h, trivial⟩) (fun h => .inr ⟨h, trivial⟩)
              clear hstep2 hd
              by_cases h100 : out.length = 100
              · have hl100 : ((T.size : Int) == 100) = true := by rw [hTs.out]; simp [h100]
                have hfin : Hid (R = .bad 5) := by have := hstep3.out; rw [if_pos h100] at this; exact this
                obtain ⟨⟨g0, g1, g2⟩, r0, r1, r2⟩ := box_facts hA.out
                replace h100 := hid0 h100
                clear hstep3 hbu
                rcases hsc with ⟨rfl, -⟩ | ⟨rfl, -⟩
                · go_wp2
                  have hRow := run_loadVar_row (P := Tryd.prog) _ w.heap.size 33 33 _ _ _ (heap_set3 hA.out (.int .i64 0) (.int .i64 0) (.string ⟨#[]⟩)) Tryd.underlying33 rfl (by kernel_rfl)
                  refine bodyPost_ret (v := .tuple #[.agg #[.int .i64 0, .int .i64 0, .string ⟨#[]⟩], .int .i64 0, .int .i64 5]) ((results_cell_tmp2 rfl _ _ _).trans (by simp [asAddr, hRow, Result.andThen])) rfl ⟨by rw [hfin.out]; rfl, ((hB.out.setCell (Nat.le_refl _) _).setCell (Nat.le_refl _) _).setCell (Nat.le_refl _) _⟩
                · go_wp2
                  have hRow := run_loadVar_row (P := Tryd.prog) _ w.heap.size 33 33 _ _ _ (heap_set3 hA.out (.int .i64 0) (.int .i64 0) (.string ⟨#[]⟩)) Tryd.underlying33 rfl (by kernel_rfl)
                  refine bodyPost_ret (v := .tuple #[.agg #[.int .i64 0, .int .i64 0, .string ⟨#[]⟩], .int .i64 0, .int .i64 5]) ((results_cell_tmp2 rfl _ _ _).trans (by simp [asAddr, hRow, Result.andThen])) rfl ⟨by rw [hfin.out]; rfl, ((hB.out.setCell (Nat.le_refl _) _).setCell (Nat.le_refl _) _).setCell (Nat.le_refl _) _⟩
              · have hl100 : ((T.size : Int) == 100) = false := by rw [hTs.out]; simp; omega
                have hnext : Hid (textS s g (j + 2) (out ++ [ubyte s (j + 1)]) = R) := by have := hstep3.out; rw [if_neg h100] at this; exact this.symm
                have hnf : Hid (s.size ≤ j + 2 + g) := by have := hg.out; show _ ≤ _; omega
                clear hstep3
                rcases hsc with ⟨rfl, -⟩ | ⟨rfl, -⟩
                · have hcv := conv_one wr (39) (ubyte s (j + 1)) hbu.out
                  have happ : Hid (T ++ tx [ubyte s (j + 1)] = tx (out ++ [ubyte s (j + 1)])) := by show _ = _; rw [hT.out, tx_snoc]
                  have hfl : Hid (out.length < 100) := by show _ < _; omega
                  have hB3 : Hid (Below w.heap.size w (wr.alloc (.cells #[.int .u8 (39)] 5))) := hB.out.alloc (by have := hsz.out; omega) _
                  have hA3 : Hid ((wr.alloc (.cells #[.int .u8 (39)] 5)).heap[w.heap.size]? = some (.cells #[.int .i64 0, .int .i64 0, .string ⟨#[]⟩] 33)) := (heap_alloc_old _ _ (by have := hsz.out; omega)).trans hA.out
                  have hs3 : Hid (w.heap.size + 1 ≤ (wr.alloc (.cells #[.int .u8 (39)] 5)).heap.size) := by have := hsz.out; show _ ≤ (wr.heap.push _).size; simp; omega
                  have hts1 : ¬ 9223372036854775807 < T.size + (tx [ubyte s (j + 1)]).size := by have := hTs.out; rw [tx_size]; simp; omega
                  generalize tx [ubyte s (j + 1)] = tu at *
                  have hTs2 : (T.size : Int) ≤ 100 := by have := hTs.out; omega
                  clear hbu hA hB hsz
                  go_wp2
                  go_roundw
                  case rel => exact ⟨out ++ [ubyte s (j + 1)], j + 2, g, _, rfl, by first | rfl | go_num, happ, by rw [List.length_append]; have := hfl.out; simp; omega, by omega, hnf.out, hnext, hA3, hs3, hB3⟩
                  case measure => simp [intOf]; omega
                · have hcv := conv_one wr (92) (ubyte s (j + 1)) hbu.out
                  have happ : Hid (T ++ tx [ubyte s (j + 1)] = tx (out ++ [ubyte s (j + 1)])) := by show _ = _; rw [hT.out, tx_snoc]
                  have hfl : Hid (out.length < 100) := by show _ < _; omega
                  have hB3 : Hid (Below w.heap.size w (wr.alloc (.cells #[.int .u8 (92)] 5))) := hB.out.alloc (by have := hsz.out; omega) _
                  have hA3 : Hid ((wr.alloc (.cells #[.int .u8 (92)] 5)).heap[w.heap.size]? = some (.cells #[.int .i64 0, .int .i64 0, .string ⟨#[]⟩] 33)) := (heap_alloc_old _ _ (by have := hsz.out; omega)).trans hA.out
                  have hs3 : Hid (w.heap.size + 1 ≤ (wr.alloc (.cells #[.int .u8 (92)] 5)).heap.size) := by have := hsz.out; show _ ≤ (wr.heap.push _).size; simp; omega
                  have hts1 : ¬ 9223372036854775807 < T.size + (tx [ubyte s (j + 1)]).size := by have := hTs.out; rw [tx_size]; simp; omega
                  generalize tx [ubyte s (j + 1)] = tu at *
                  have hTs2 : (T.size : Int) ≤ 100 := by have := hTs.out; omega
                  clear hbu hA hB hsz
                  go_wp2
                  go_roundw
                  case rel => exact ⟨out ++ [ubyte s (j + 1)], j + 2, g, _, rfl, by first | rfl | go_num, happ, by rw [List.length_append]; have := hfl.out; simp; omega, by omega, hnf.out, hnext, hA3, hs3, hB3⟩
                  case measure => simp [intOf]; omega
          · have hl3 : Hid (j + 1 = s.size) := by show _ = _; omega
            have hj2 : ((j : Int) + 1 == (s.size : Int)) = true := by have := hl3.out; simp; omega
            have hfin : Hid (R = .bad 7) := by have := hstep1.out; rw [if_neg hl2] at this; exact this
            obtain ⟨⟨g0, g1, g2⟩, r0, r1, r2⟩ := box_facts hA.out
            clear hstep1 hl2
            go_wp2
            have hRow := run_loadVar_row (P := Tryd.prog) _ w.heap.size 33 33 _ _ _ (heap_set3 hA.out (.int .i64 0) (.int .i64 0) (.string ⟨#[]⟩)) Tryd.underlying33 rfl (by kernel_rfl)
            refine bodyPost_ret (v := .tuple #[.agg #[.int .i64 0, .int .i64 0, .string ⟨#[]⟩], .int .i64 0, .int .i64 7]) ((results_cell_tmp2 rfl _ _ _).trans (by simp [asAddr, hRow, Result.andThen])) rfl ⟨by rw [hfin.out]; rfl, ((hB.out.setCell (Nat.le_refl _) _).setCell (Nat.le_refl _) _).setCell (Nat.le_refl _) _⟩
        · have hq2 : (b == 92) = false := by simp [h92]
          have hstep1 : Hid (R = if plainB b then (if out.length = 100 then .bad 5 else textS s g (j + 1) (out ++ [ubyte s j])) else .bad 2) := by
            have := hstep.out; rw [if_neg h39, if_neg h92] at this; exact this
          replace h39 := hid0 h39
          replace h92 := hid0 h92
          clear hstep
          by_cases hlo : b < 32
          · have hfin : Hid (R = .bad 2) := by have := hstep1.out; rw [plain_lo hlo] at this; exact this
            obtain ⟨⟨g0, g1, g2⟩, r0, r1, r2⟩ := box_facts hA.out
            clear hstep1 hbu
            go_wp2
            have hRow := run_loadVar_row (P := Tryd.prog) _ w.heap.size 33 33 _ _ _ (heap_set3 hA.out (.int .i64 0) (.int .i64 0) (.string ⟨#[]⟩)) Tryd.underlying33 rfl (by kernel_rfl)
            refine bodyPost_ret (v := .tuple #[.agg #[.int .i64 0, .int .i64 0, .string ⟨#[]⟩], .int .i64 0, .int .i64 2]) ((results_cell_tmp2 rfl _ _ _).trans (by simp [asAddr, hRow, Result.andThen])) rfl ⟨by rw [hfin.out]; rfl, ((hB.out.setCell (Nat.le_refl _) _).setCell (Nat.le_refl _) _).setCell (Nat.le_refl _) _⟩
          · by_cases hhi : 126 < b
            · have hfin : Hid (R = .bad 2) := by have := hstep1.out; rw [plain_hi hhi] at this; exact this
              obtain ⟨⟨g0, g1, g2⟩, r0, r1, r2⟩ := box_facts hA.out
              clear hstep1 hbu
              go_wp2
              have hRow := run_loadVar_row (P := Tryd.prog) _ w.heap.size 33 33 _ _ _ (heap_set3 hA.out (.int .i64 0) (.int .i64 0) (.string ⟨#[]⟩)) Tryd.underlying33 rfl (by kernel_rfl)
              refine bodyPost_ret (v := .tuple #[.agg #[.int .i64 0, .int .i64 0, .string ⟨#[]⟩], .int .i64 0, .int .i64 2]) ((results_cell_tmp2 rfl _ _ _).trans (by simp [asAddr, hRow, Result.andThen])) rfl ⟨by rw [hfin.out]; rfl, ((hB.out.setCell (Nat.le_refl _) _).setCell (Nat.le_refl _) _).setCell (Nat.le_refl _) _⟩
            · have hstep3 : Hid (R = if out.length = 100 then .bad 5 else textS s g (j + 1) (out ++ [ubyte s j])) := by have := hstep1.out; rw [plain_mid hlo hhi] at this; exact this
              clear hstep1
              by_cases h100 : out.length = 100
              · have hl100 : ((T.size : Int) == 100) = true := by rw [hTs.out]; simp [h100]
                have hfin : Hid (R = .bad 5) := by have := hstep3.out; rw [if_pos h100] at this; exact this
                obtain ⟨⟨g0, g1, g2⟩, r0, r1, r2⟩ := box_facts hA.out
                replace h100 := hid0 h100
                clear hstep3 hbu
                go_wp2
                have hRow := run_loadVar_row (P := Tryd.prog) _ w.heap.size 33 33 _ _ _ (heap_set3 hA.out (.int .i64 0) (.int .i64 0) (.string ⟨#[]⟩)) Tryd.underlying33 rfl (by kernel_rfl)
                refine bodyPost_ret (v := .tuple #[.agg #[.int .i64 0, .int .i64 0, .string ⟨#[]⟩], .int .i64 0, .int .i64 5]) ((results_cell_tmp2 rfl _ _ _).trans (by simp [asAddr, hRow, Result.andThen])) rfl ⟨by rw [hfin.out]; rfl, ((hB.out.setCell (Nat.le_refl _) _).setCell (Nat.le_refl _) _).setCell (Nat.le_refl _) _⟩
              · have hl100 : ((T.size : Int) == 100) = false := by rw [hTs.out]; simp; omega
                have hnext : Hid (textS s g (j + 1) (out ++ [ubyte s j]) = R) := by have := hstep3.out; rw [if_neg h100] at this; exact this.symm
                have hnf : Hid (s.size ≤ j + 1 + g) := by have := hg.out; show _ ≤ _; omega
                clear hstep3
                have hcv := conv_one wr (b) (ubyte s (j)) hbu.out
                have happ : Hid (T ++ tx [ubyte s (j)] = tx (out ++ [ubyte s (j)])) := by show _ = _; rw [hT.out, tx_snoc]
                have hfl : Hid (out.length < 100) := by show _ < _; omega
                have hB3 : Hid (Below w.heap.size w (wr.alloc (.cells #[.int .u8 (b)] 5))) := hB.out.alloc (by have := hsz.out; omega) _
                have hA3 : Hid ((wr.alloc (.cells #[.int .u8 (b)] 5)).heap[w.heap.size]? = some (.cells #[.int .i64 0, .int .i64 0, .string ⟨#[]⟩] 33)) := (heap_alloc_old _ _ (by have := hsz.out; omega)).trans hA.out
                have hs3 : Hid (w.heap.size + 1 ≤ (wr.alloc (.cells #[.int .u8 (b)] 5)).heap.size) := by have := hsz.out; show _ ≤ (wr.heap.push _).size; simp; omega
                have hts1 : ¬ 9223372036854775807 < T.size + (tx [ubyte s (j)]).size := by have := hTs.out; rw [tx_size]; simp; omega
                generalize tx [ubyte s (j)] = tu at *
                have hTs2 : (T.size : Int) ≤ 100 := by have := hTs.out; omega
                clear hbu hA hB hsz
                go_wp2
                go_roundw
                case rel => exact ⟨out ++ [ubyte s (j)], j + 1, g, _, rfl, by first | rfl | go_num, happ, by rw [List.length_append]; have := hfl.out; simp; omega, by omega, hnf.out, hnext, hA3, hs3, hB3⟩
                case measure => simp [intOf]; omega
    · have hj1 : ¬ (j : Int) < (s.size : Int) := by omega
      have hfin : Hid (R = .bad 7) := by show _ = _; rw [← hrel.out]; exact text_end hlt f out
      obtain ⟨⟨g0, g1, g2⟩, r0, r1, r2⟩ := box_facts hA.out
      clear hrel
      go_wp2
      have hRow := run_loadVar_row (P := Tryd.prog) _ w.heap.size 33 33 _ _ _ (heap_set3 hA.out (.int .i64 0) (.int .i64 0) (.string ⟨#[]⟩)) Tryd.underlying33 rfl (by kernel_rfl)
      refine bodyPost_ret (v := .tuple #[.agg #[.int .i64 0, .int .i64 0, .string ⟨#[]⟩], .int .i64 0, .int .i64 7]) ((results_cell_tmp2 rfl _ _ _).trans (by simp [asAddr, hRow, Result.andThen])) rfl ⟨by rw [hfin.out]; rfl, ((hB.out.setCell (Nat.le_refl _) _).setCell (Nat.le_refl _) _).setCell (Nat.le_refl _) _⟩
end Go.Proofs.YtddmdieeljjamaaDoor
/-
  A VALUE READ: the reference's function, by contract.
-/
namespace Go.Proofs.YtddmdieeljjamaaDoor
open Go.ChangeShapes Go.WideShapes Go.ChangeAt Go.RowKit

theorem rrdig_c (b : Int) (w : World) : Calls Tryd.prog 23 #[.int .u8 b] w fun e w' => e = .returned (.bool (isDig b)) ∧ w' = w := by
  by_cases h1 : 48 ≤ b <;> by_cases h2 : b ≤ 57 <;> first | (exfalso; omega) | skip
  all_goals
    go_enter Tryd.func23, Tryd.ntmps23
    go_wp2
    go_ret
    exact ⟨ret_bool (by unfold isDig; simp [h1, h2]), rfl⟩
def cells0 : Obj := .cells #[.int .i64 0, .int .i64 0, .string ⟨#[]⟩] 33
theorem two_new (w : World) (a b : Obj) : ((w.alloc a).alloc b).heap[w.heap.size]? = some a ∧ ((w.alloc a).alloc b).heap[w.heap.size + 1]? = some b ∧ ((w.alloc a).alloc b).heap.size = w.heap.size + 2 ∧ Below w.heap.size w ((w.alloc a).alloc b) := by
  have h1 : (w.alloc a).heap.size = w.heap.size + 1 := by show (w.heap.push a).size = _; simp
  refine ⟨(heap_alloc_old _ _ (by rw [h1]; omega)).trans (heap_alloc_new _ _), ?_, ?_, ((Below.refl _ _).alloc (Nat.le_refl _) _).alloc (by rw [h1]; omega) _⟩
  · rw [← h1]; exact heap_alloc_new _ _
  · show ((w.heap.push a).push b).size = _; simp

set_option maxHeartbeats 6400000 in
theorem rread_c (s : ByteArray) (w : World) (hs : s.size ≤ 1000) : Calls Tryd.prog 25 #[.string s] w fun e w' =>
    e = .returned (readS s).v ∧ Below w.heap.size w w' := by
  have hdig := fun b w => rrdig_c b w
  obtain ⟨hA0, hN0, hs0, hB0⟩ := two_new w (.cells #[.int .i64 0, .int .i64 0, .string ⟨#[]⟩] 33) (.cells #[.int .i64 0, .int .i64 0, .string ⟨#[]⟩] 33)
  obtain ⟨w2, hw2⟩ : ∃ w2, w2 = (w.alloc (.cells #[.int .i64 0, .int .i64 0, .string ⟨#[]⟩] 33)).alloc (.cells #[.int .i64 0, .int .i64 0, .string ⟨#[]⟩] 33) := ⟨_, rfl⟩
  rw [← hw2] at hA0 hN0 hs0 hB0
  by_cases h0 : s.size = 0
  · have e : Hid (readS s = .bad 7) := by show _ = _; simp [readS, h0]
    obtain rfl : s = ⟨#[]⟩ := by
      apply ByteArray.ext
      apply Array.eq_empty_of_size_eq_zero
      exact h0
    rw [e.out]
    clear h0 hs hdig hA0 hN0 hs0 hB0 hw2
    have hRow := run_loadVar_row (P := Tryd.prog) _ w.heap.size 33 33 _ _ _ (two_new w (.cells #[.int .i64 0, .int .i64 0, .string ⟨#[]⟩] 33) (.cells #[.int .i64 0, .int .i64 0, .string ⟨#[]⟩] 33)).1 Tryd.underlying33 rfl (by kernel_rfl)
    have hB1 := hid0 (two_new w (.cells #[.int .i64 0, .int .i64 0, .string ⟨#[]⟩] 33) (.cells #[.int .i64 0, .int .i64 0, .string ⟨#[]⟩] 33)).2.2.2
    replace hRow := hid0 hRow
    go_enter Tryd.func25, Tryd.ntmps25
    go_wp2
    have hRow := hRow.out
    refine bodyPost_ret (v := .tuple #[.agg #[.int .i64 0, .int .i64 0, .string ⟨#[]⟩], .int .i64 0, .int .i64 7]) ((results_cell_tmp2 rfl _ _ _).trans (by simp [asAddr, hRow, Result.andThen])) rfl ⟨rfl, hB1.out⟩
  · have hE := list_none s h0
    have hE1 := list_one s
    have hs1 : 0 < s.size := by omega
    have hb0 := byteAt_eq (s := s) (k := 0) hs1
    by_cases h1 : s.size = 1 ∧ byteAt s 0 = 45
    · have e : Hid (readS s = .bad 7) := by show _ = _; simp [readS, h1]
      have hE2 : (s.toList == ([45] : List UInt8)) = true := by rw [hE1]; simp [h1]
      rw [e.out]
      clear h1 hE1 h0 hdig hA0 hN0 hs0 hB0 hw2
      have hRow := run_loadVar_row (P := Tryd.prog) _ w.heap.size 33 33 _ _ _ (two_new w (.cells #[.int .i64 0, .int .i64 0, .string ⟨#[]⟩] 33) (.cells #[.int .i64 0, .int .i64 0, .string ⟨#[]⟩] 33)).1 Tryd.underlying33 rfl (by kernel_rfl)
      have hB1 := hid0 (two_new w (.cells #[.int .i64 0, .int .i64 0, .string ⟨#[]⟩] 33) (.cells #[.int .i64 0, .int .i64 0, .string ⟨#[]⟩] 33)).2.2.2
      replace hRow := hid0 hRow
      go_enter Tryd.func25, Tryd.ntmps25
      go_wp2
      have hRow := hRow.out
      refine bodyPost_ret (v := .tuple #[.agg #[.int .i64 0, .int .i64 0, .string ⟨#[]⟩], .int .i64 0, .int .i64 7]) ((results_cell_tmp2 rfl _ _ _).trans (by simp [asAddr, hRow, Result.andThen])) rfl ⟨rfl, hB1.out⟩
    · have hE2 : (s.toList == ([45] : List UInt8)) = false := by
        rw [hE1, Bool.and_eq_false_iff, decide_eq_false_iff_not, decide_eq_false_iff_not]
        by_cases ha : s.size = 1
        · exact .inr fun hb => h1 ⟨ha, hb⟩
        · exact .inl ha
      have hread : Hid (readS s = if byteAt s 0 = 39 then textS s s.size 1 [] else if byteAt s 0 = 45 then (if isDig (byteAt s 1) then numS s true s.size 1 0 else .bad 2) else if isDig (byteAt s 0) then numS s false s.size 0 0 else .bad 2) := by
        show _ = _
        unfold readS; rw [if_neg (by intro h; rcases h with h | h; exact h0 h; exact h1 h)]
      have hl1 : byteAt s 0 = 45 → 1 < s.size := fun h => by
        rcases Nat.lt_or_ge 1 s.size with h2 | h2
        · exact h2
        · exact absurd ⟨by omega, h⟩ h1
      have hbi : ∀ h : 1 < s.size, ((s[1]).toNat : Int) = byteAt s 1 := fun h => byteAt_eq h
      replace hbi := hid0 hbi
      clear hE1 h1 h0
      generalize byteAt s 1 = b1 at *
      generalize byteAt s 0 = b0 at *
      by_cases h2 : b0 = 39
      · have hq : (b0 == 39) = true := by simp [h2]
        have hcall := fun w => rtext_c s w hs
        have hfinR : Hid (readS s = textS s s.size 1 []) := by show _ = _; rw [hread.out, if_pos h2]
        rw [hfinR.out]
        clear h2 hread hl1 hbi hfinR hdig
        generalize textS s s.size 1 [] = x at *
        obtain ⟨k, n, t, m, er⟩ := x
        simp only [RR.v] at hcall ⊢
        generalize tx t = tt at *
        replace hA0 := hid0 hA0
        replace hB0 := hid0 hB0
        replace hs0 := hid0 hs0
        go_enter Tryd.func25, Tryd.ntmps25
        go_wp2_with fail
        rw [← hw2]
        refine (hcall _).mono ?_
        rintro e w1 ⟨rfl, hB⟩
        have hA : Hid (w1.heap[w.heap.size]? = some (.cells #[.int .i64 0, .int .i64 0, .string ⟨#[]⟩] 33)) := (hB.block _ (by rw [hs0.out]; omega)).trans hA0.out
        replace hB : Hid (Below w.heap.size w w1) := hB0.out.trans (hB.mono (by rw [hs0.out]; omega))
        obtain ⟨⟨g0, g1, g2⟩, r0, r1, r2⟩ := box_facts hA.out
        clear hcall hA0 hB0 hs0 hN0 hw2
        go_wp2
        have hRow := run_loadVar_row (P := Tryd.prog) _ w.heap.size 33 33 _ _ _ (heap_set3 hA.out (.int .i64 k) (.int .i64 n) (.string tt)) Tryd.underlying33 rfl (by kernel_rfl)
        refine bodyPost_ret (v := .tuple #[.agg #[.int .i64 k, .int .i64 n, .string tt], .int .i64 (m : Int), .int .i64 er]) ((results_cell_tmp2 rfl _ _ _).trans (by simp [asAddr, hRow, Result.andThen])) rfl ⟨by rfl, ((hB.out.setCell (Nat.le_refl _) _).setCell (Nat.le_refl _) _).setCell (Nat.le_refl _) _⟩
      · have hq : (b0 == 39) = false := by simp [h2]
        by_cases h3 : b0 = 45
        · have hq3 : (b0 == 45) = true := by simp [h3]
          have hl := hl1 h3
          have hb1 := hbi.out hl
          have hc := fun w => hdig b1 w
          replace hread : Hid (readS s = if isDig b1 then numS s true s.size 1 0 else .bad 2) := by show _ = _; rw [hread.out, if_neg h2, if_pos h3]
          clear h2 h3 hl1
          go_enter Tryd.func25, Tryd.ntmps25
          go_wp2_with fail
          go_quiet (fail)
          obtain ⟨wq, hwq⟩ : ∃ wq, wq = ((w.alloc (.cells #[.int .i64 0, .int .i64 0, .string ⟨#[]⟩] 33)).alloc (.cells #[.int .i64 0, .int .i64 0, .string ⟨#[]⟩] 33)).drewN nq := ⟨_, rfl⟩
          rw [← hwq]
          have hA : Hid (wq.heap[w.heap.size]? = some (.cells #[.int .i64 0, .int .i64 0, .string ⟨#[]⟩] 33)) := by rw [hwq, ← hw2]; exact hA0
          have hN : Hid (wq.heap[w.heap.size + 1]? = some (.cells #[.int .i64 0, .int .i64 0, .string ⟨#[]⟩] 33)) := by rw [hwq, ← hw2]; exact hN0
          have hB : Hid (Below w.heap.size w wq) := by rw [hwq, ← hw2]; exact below_drewN hB0 _
          clear hwq hA0 hN0 hB0 hs0 hw2
          cases hd : isDig b1 with
          | false =>
            rw [hd] at hc
            have hfin : Hid (readS s = .bad 2) := by show _ = _; rw [hread.out, hd]; rfl
            obtain ⟨⟨g0, g1, g2⟩, r0, r1, r2⟩ := box_facts hA.out
            obtain ⟨⟨k0, k1, k2⟩, -⟩ := box_facts hN.out
            clear hd
            go_wp2_with fail
            refine (hc _).mono ?_
            rintro e wq ⟨rfl, rfl⟩
            go_wp2
            have hRow := run_loadVar_row (P := Tryd.prog) _ w.heap.size 33 33 _ _ _ (heap_set3 hA.out (.int .i64 0) (.int .i64 0) (.string ⟨#[]⟩)) Tryd.underlying33 rfl (by kernel_rfl)
            refine bodyPost_ret (v := .tuple #[.agg #[.int .i64 0, .int .i64 0, .string ⟨#[]⟩], .int .i64 0, .int .i64 2]) ((results_cell_tmp2 rfl _ _ _).trans (by simp [asAddr, hRow, Result.andThen])) rfl ⟨by rw [hfin.out]; rfl, ((hB.out.setCell (Nat.le_refl _) _).setCell (Nat.le_refl _) _).setCell (Nat.le_refl _) _⟩
          | true =>
            rw [hd] at hc
            obtain ⟨R, hR⟩ : ∃ R, Hid (numS s true s.size 1 0 = R) := ⟨_, (rfl : _ = _)⟩
            have hfinR : Hid (readS s = R) := by show _ = _; rw [hread.out, hd]; exact hR.out
            clear hd hread
            go_wp2_with fail
            refine (hc _).mono ?_
            rintro e wq ⟨rfl, rfl⟩
            clear hc hb1 hbi
            go_wp2_with fail
            go_loop [6, 7] (fun i x => ∃ (n j f : Nat), n ≤ 1000000000000 ∧ j ≤ s.size ∧ s.size ≤ j + f ∧ x = .int .i64 (n : Int) ∧ i = .int .i64 (j : Int) ∧ Hid (numS s true f j n = R)) (fun i _ => s.size - (intOf i).toNat)
            case atStart => exact ⟨0, 1, s.size, by omega, by omega, by omega, rfl, rfl, hR⟩
            case round =>
              clear hR
              obtain ⟨n, j, f, hn, hj, hf, rfl, rfl, hrel⟩ := hrel
              obtain ⟨⟨g0, g1, g2⟩, r0, r1, r2⟩ := box_facts hA.out
              obtain ⟨⟨k0, k1, k2⟩, -⟩ := box_facts hN.out
              by_cases hlt : j < s.size
              · have hj1 : (j : Int) < (s.size : Int) := by omega
                have hbj := byteAt_eq (s := s) (k := j) hlt
                have hdj := fun w => hdig (byteAt s j) w
                cases hd : isDig (byteAt s j) with
                | true =>
                  rw [hd] at hdj
                  obtain ⟨d, hbd, hd9, hlo, hhi⟩ := dig_bounds hd
                  obtain ⟨g, hg, hstep⟩ := num_step (neg := true) (n := n) hlt hd hbd hf
                  rw [hrel.out] at hstep
                  replace hstep := hid0 hstep
                  generalize byteAt s j = b at *
                  have hw8 : IntKind.u8.wrap (d : Int) = (d : Int) := by rw [IntKind.wrap_u8]; omega
                  replace hg := hid0 hg
                  clear hd hf hrel
                  by_cases hbig : 10 * n + d ≤ 1000000000000
                  · have hnext : Hid (numS s true g (j + 1) (10 * n + d) = R) := by have := hstep.out; rw [if_pos hbig] at this; exact this.symm
                    have hbg : ¬ (1000000000000 : Int) < 10 * (n : Int) + (d : Int) := by omega
                    clear hstep g0 g1 g2 r0 r1 r2 k0 k1 k2
                    go_wp2_with fail
                    refine (hdj _).mono ?_
                    rintro e wq ⟨rfl, rfl⟩
                    go_wp2
                    go_round
                    case rel => exact ⟨10 * n + d, j + 1, g, hbig, by omega, hg.out, by first | rfl | go_num, by go_num, hnext⟩
                    case measure => simp [intOf]; omega
                  · have hfin : Hid (R = .bad 5) := by have := hstep.out; rw [if_neg hbig] at this; exact this
                    have hbg : (1000000000000 : Int) < 10 * (n : Int) + (d : Int) := by omega
                    clear hstep
                    go_wp2_with fail
                    refine (hdj _).mono ?_
                    rintro e wq ⟨rfl, rfl⟩
                    go_wp2
                    have hRow := run_loadVar_row (P := Tryd.prog) _ w.heap.size 33 33 _ _ _ (heap_set3 hA.out (.int .i64 0) (.int .i64 0) (.string ⟨#[]⟩)) Tryd.underlying33 rfl (by kernel_rfl)
                    refine bodyPost_ret (v := .tuple #[.agg #[.int .i64 0, .int .i64 0, .string ⟨#[]⟩], .int .i64 0, .int .i64 5]) ((results_cell_tmp2 rfl _ _ _).trans (by simp [asAddr, hRow, Result.andThen])) rfl ⟨by rw [hfinR.out, hfin.out]; rfl, ((hB.out.setCell (Nat.le_refl _) _).setCell (Nat.le_refl _) _).setCell (Nat.le_refl _) _⟩
                | false =>
                  rw [hd] at hdj
                  have hfin : Hid (R = ⟨1, if true then -(n : Int) else n, [], j, 0⟩) := by show _ = _; rw [← hrel.out]; exact num_end (by rintro ⟨_, h⟩; rw [hd] at h; cases h) f
                  generalize byteAt s j = b at *
                  clear hrel hd hf
                  go_wp2_with fail
                  refine (hdj _).mono ?_
                  rintro e wq ⟨rfl, rfl⟩
                  go_wp2
                  have hRow := run_loadVar_row (P := Tryd.prog) _ w.heap.size 33 33 _ _ _ (heap_set3 hA.out (.int .i64 1) (.int .i64 (-(n : Int))) (.string ⟨#[]⟩)) Tryd.underlying33 rfl (by kernel_rfl)
                  refine bodyPost_ret (v := .tuple #[.agg #[.int .i64 1, .int .i64 (-(n : Int)), .string ⟨#[]⟩], .int .i64 (j : Int), .int .i64 0]) ((results_cell_tmp2 rfl _ _ _).trans (by simp [asAddr, hRow, Result.andThen])) rfl ⟨by rw [hfinR.out, hfin.out]; rfl, ((hB.out.setCell (Nat.le_refl _) _).setCell (Nat.le_refl _) _).setCell (Nat.le_refl _) _⟩
              · have hj1 : ¬ (j : Int) < (s.size : Int) := by omega
                have hfin : Hid (R = ⟨1, if true then -(n : Int) else n, [], j, 0⟩) := by show _ = _; rw [← hrel.out]; exact num_end (by rintro ⟨h, _⟩; exact hlt h) f
                clear hrel hf
                go_wp2
                have hRow := run_loadVar_row (P := Tryd.prog) _ w.heap.size 33 33 _ _ _ (heap_set3 hA.out (.int .i64 1) (.int .i64 (-(n : Int))) (.string ⟨#[]⟩)) Tryd.underlying33 rfl (by kernel_rfl)
                refine bodyPost_ret (v := .tuple #[.agg #[.int .i64 1, .int .i64 (-(n : Int)), .string ⟨#[]⟩], .int .i64 (j : Int), .int .i64 0]) ((results_cell_tmp2 rfl _ _ _).trans (by simp [asAddr, hRow, Result.andThen])) rfl ⟨by rw [hfinR.out, hfin.out]; rfl, ((hB.out.setCell (Nat.le_refl _) _).setCell (Nat.le_refl _) _).setCell (Nat.le_refl _) _⟩
        · have hq3 : (b0 == 45) = false := by simp [h3]
          have hc := fun w => hdig b0 w
          have hb1 : True := trivial
          replace hread : Hid (readS s = if isDig b0 then numS s false s.size 0 0 else .bad 2) := by show _ = _; rw [hread.out, if_neg h2, if_neg h3]
          clear h2 h3 hl1
          go_enter Tryd.func25, Tryd.ntmps25
          go_wp2_with fail
          go_quiet (fail)
          obtain ⟨wq, hwq⟩ : ∃ wq, wq = ((w.alloc (.cells #[.int .i64 0, .int .i64 0, .string ⟨#[]⟩] 33)).alloc (.cells #[.int .i64 0, .int .i64 0, .string ⟨#[]⟩] 33)).drewN nq := ⟨_, rfl⟩
          rw [← hwq]
          have hA : Hid (wq.heap[w.heap.size]? = some (.cells #[.int .i64 0, .int .i64 0, .string ⟨#[]⟩] 33)) := by rw [hwq, ← hw2]; exact hA0
          have hN : Hid (wq.heap[w.heap.size + 1]? = some (.cells #[.int .i64 0, .int .i64 0, .string ⟨#[]⟩] 33)) := by rw [hwq, ← hw2]; exact hN0
          have hB : Hid (Below w.heap.size w wq) := by rw [hwq, ← hw2]; exact below_drewN hB0 _
          clear hwq hA0 hN0 hB0 hs0 hw2
          cases hd : isDig b0 with
          | false =>
            rw [hd] at hc
            have hfin : Hid (readS s = .bad 2) := by show _ = _; rw [hread.out, hd]; rfl
            obtain ⟨⟨g0, g1, g2⟩, r0, r1, r2⟩ := box_facts hA.out
            obtain ⟨⟨k0, k1, k2⟩, -⟩ := box_facts hN.out
            clear hd
            go_wp2_with fail
            refine (hc _).mono ?_
            rintro e wq ⟨rfl, rfl⟩
            go_wp2
            have hRow := run_loadVar_row (P := Tryd.prog) _ w.heap.size 33 33 _ _ _ (heap_set3 hA.out (.int .i64 0) (.int .i64 0) (.string ⟨#[]⟩)) Tryd.underlying33 rfl (by kernel_rfl)
            refine bodyPost_ret (v := .tuple #[.agg #[.int .i64 0, .int .i64 0, .string ⟨#[]⟩], .int .i64 0, .int .i64 2]) ((results_cell_tmp2 rfl _ _ _).trans (by simp [asAddr, hRow, Result.andThen])) rfl ⟨by rw [hfin.out]; rfl, ((hB.out.setCell (Nat.le_refl _) _).setCell (Nat.le_refl _) _).setCell (Nat.le_refl _) _⟩
          | true =>
            rw [hd] at hc
            obtain ⟨R, hR⟩ : ∃ R, Hid (numS s false s.size 0 0 = R) := ⟨_, (rfl : _ = _)⟩
            have hfinR : Hid (readS s = R) := by show _ = _; rw [hread.out, hd]; exact hR.out
            clear hd hread
            go_wp2_with fail
            refine (hc _).mono ?_
            rintro e wq ⟨rfl, rfl⟩
            clear hc hb1 hbi
            go_wp2_with fail
            go_loop [6, 7] (fun i x => ∃ (n j f : Nat), n ≤ 1000000000000 ∧ j ≤ s.size ∧ s.size ≤ j + f ∧ x = .int .i64 (n : Int) ∧ i = .int .i64 (j : Int) ∧ Hid (numS s false f j n = R)) (fun i _ => s.size - (intOf i).toNat)
            case atStart => exact ⟨0, 0, s.size, by omega, by omega, by omega, rfl, rfl, hR⟩
            case round =>
              clear hR
              obtain ⟨n, j, f, hn, hj, hf, rfl, rfl, hrel⟩ := hrel
              obtain ⟨⟨g0, g1, g2⟩, r0, r1, r2⟩ := box_facts hA.out
              obtain ⟨⟨k0, k1, k2⟩, -⟩ := box_facts hN.out
              by_cases hlt : j < s.size
              · have hj1 : (j : Int) < (s.size : Int) := by omega
                have hbj := byteAt_eq (s := s) (k := j) hlt
                have hdj := fun w => hdig (byteAt s j) w
                cases hd : isDig (byteAt s j) with
                | true =>
                  rw [hd] at hdj
                  obtain ⟨d, hbd, hd9, hlo, hhi⟩ := dig_bounds hd
                  obtain ⟨g, hg, hstep⟩ := num_step (neg := false) (n := n) hlt hd hbd hf
                  rw [hrel.out] at hstep
                  replace hstep := hid0 hstep
                  generalize byteAt s j = b at *
                  have hw8 : IntKind.u8.wrap (d : Int) = (d : Int) := by rw [IntKind.wrap_u8]; omega
                  replace hg := hid0 hg
                  clear hd hf hrel
                  by_cases hbig : 10 * n + d ≤ 1000000000000
                  · have hnext : Hid (numS s false g (j + 1) (10 * n + d) = R) := by have := hstep.out; rw [if_pos hbig] at this; exact this.symm
                    have hbg : ¬ (1000000000000 : Int) < 10 * (n : Int) + (d : Int) := by omega
                    clear hstep g0 g1 g2 r0 r1 r2 k0 k1 k2
                    go_wp2_with fail
                    refine (hdj _).mono ?_
                    rintro e wq ⟨rfl, rfl⟩
                    go_wp2
                    go_round
                    case rel => exact ⟨10 * n + d, j + 1, g, hbig, by omega, hg.out, by first | rfl | go_num, by go_num, hnext⟩
                    case measure => simp [intOf]; omega
                  · have hfin : Hid (R = .bad 5) := by have := hstep.out; rw [if_neg hbig] at this; exact this
                    have hbg : (1000000000000 : Int) < 10 * (n : Int) + (d : Int) := by omega
                    clear hstep
                    go_wp2_with fail
                    refine (hdj _).mono ?_
                    rintro e wq ⟨rfl, rfl⟩
                    go_wp2
                    have hRow := run_loadVar_row (P := Tryd.prog) _ w.heap.size 33 33 _ _ _ (heap_set3 hA.out (.int .i64 0) (.int .i64 0) (.string ⟨#[]⟩)) Tryd.underlying33 rfl (by kernel_rfl)
                    refine bodyPost_ret (v := .tuple #[.agg #[.int .i64 0, .int .i64 0, .string ⟨#[]⟩], .int .i64 0, .int .i64 5]) ((results_cell_tmp2 rfl _ _ _).trans (by simp [asAddr, hRow, Result.andThen])) rfl ⟨by rw [hfinR.out, hfin.out]; rfl, ((hB.out.setCell (Nat.le_refl _) _).setCell (Nat.le_refl _) _).setCell (Nat.le_refl _) _⟩
                | false =>
                  rw [hd] at hdj
                  have hfin : Hid (R = ⟨1, if false then -(n : Int) else n, [], j, 0⟩) := by show _ = _; rw [← hrel.out]; exact num_end (by rintro ⟨_, h⟩; rw [hd] at h; cases h) f
                  generalize byteAt s j = b at *
                  clear hrel hd hf
                  go_wp2_with fail
                  refine (hdj _).mono ?_
                  rintro e wq ⟨rfl, rfl⟩
                  go_wp2
                  have hRow := run_loadVar_row (P := Tryd.prog) _ w.heap.size 33 33 _ _ _ (heap_set3 hA.out (.int .i64 1) (.int .i64 ((n : Int))) (.string ⟨#[]⟩)) Tryd.underlying33 rfl (by kernel_rfl)
                  refine bodyPost_ret (v := .tuple #[.agg #[.int .i64 1, .int .i64 ((n : Int)), .string ⟨#[]⟩], .int .i64 (j : Int), .int .i64 0]) ((results_cell_tmp2 rfl _ _ _).trans (by simp [asAddr, hRow, Result.andThen])) rfl ⟨by rw [hfinR.out, hfin.out]; rfl, ((hB.out.setCell (Nat.le_refl _) _).setCell (Nat.le_refl _) _).setCell (Nat.le_refl _) _⟩
              · have hj1 : ¬ (j : Int) < (s.size : Int) := by omega
                have hfin : Hid (R = ⟨1, if false then -(n : Int) else n, [], j, 0⟩) := by show _ = _; rw [← hrel.out]; exact num_end (by rintro ⟨h, _⟩; exact hlt h) f
                clear hrel hf
                go_wp2
                have hRow := run_loadVar_row (P := Tryd.prog) _ w.heap.size 33 33 _ _ _ (heap_set3 hA.out (.int .i64 1) (.int .i64 ((n : Int))) (.string ⟨#[]⟩)) Tryd.underlying33 rfl (by kernel_rfl)
                refine bodyPost_ret (v := .tuple #[.agg #[.int .i64 1, .int .i64 ((n : Int)), .string ⟨#[]⟩], .int .i64 (j : Int), .int .i64 0]) ((results_cell_tmp2 rfl _ _ _).trans (by simp [asAddr, hRow, Result.andThen])) rfl ⟨by rw [hfinR.out, hfin.out]; rfl, ((hB.out.setCell (Nat.le_refl _) _).setCell (Nat.le_refl _) _).setCell (Nat.le_refl _) _⟩
end Go.Proofs.YtddmdieeljjamaaDoor
