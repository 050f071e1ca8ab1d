/-
  A VALUE READ: the program's function, by contract.
-/
import Derived.Test.YtlpglldfchfaaabDoorRead2
import Derived.Test.YtlpglldfchfaaabDoorRead3
namespace Go.Proofs.YtlpglldfchfaaabDoor
open Go.ChangeShapes Go.WideShapes Go.ChangeAt Go.RowKit

/-- How it begins decides what is read. -/
theorem read_start (s : ByteArray) : (startS s = 3 ∧ readS s = .bad 7) ∨ (startS s = 2 ∧ readS s = textS s s.size 1 []) ∨ (startS s = 1 ∧ 0 < s.size ∧ ∃ neg, (byteAt s 0 == 45) = neg ∧ readS s = numS s neg s.size (if neg then 1 else 0) 0) ∨ (startS s = 0 ∧ readS s = .bad 2) := by
  unfold startS readS
  by_cases h0 : s.size = 0 ∨ (s.size = 1 ∧ byteAt s 0 = 45)
  · rw [if_pos h0, if_pos h0]; exact .inl ⟨rfl, rfl⟩
  · rw [if_neg h0, if_neg h0]
    have hs : 0 < s.size := by
      rcases Nat.eq_zero_or_pos s.size with h | h
      · exact absurd (.inl h) h0
      · exact h
    by_cases h1 : byteAt s 0 = 39
    · rw [if_pos h1, if_pos h1]; exact .inr (.inl ⟨rfl, rfl⟩)
    · rw [if_neg h1, if_neg h1]
      by_cases h2 : byteAt s 0 = 45
      · rw [if_pos h2, if_pos h2]
        cases isDig (byteAt s 1) with
        | true => exact .inr (.inr (.inl ⟨rfl, hs, true, by simp [h2], rfl⟩))
        | false => exact .inr (.inr (.inr ⟨rfl, rfl⟩))
      · rw [if_neg h2, if_neg h2]
        cases isDig (byteAt s 0) with
        | true => exact .inr (.inr (.inl ⟨rfl, hs, false, by simp [h2], rfl⟩))
        | false => exact .inr (.inr (.inr ⟨rfl, rfl⟩))
set_option maxHeartbeats 3200000 in
theorem read_c (s : ByteArray) (w : World) (hs : s.size ≤ 1000) : Calls Tryd.prog 11 #[.string s] w fun e w' =>
    e = .returned (readS s).v ∧ Below w.heap.size w w' := by
  have hst := fun w => start_c s w hs
  have hA0 : Hid ((w.alloc (.cells #[.int .i64 0, .int .i64 0, .string ⟨#[]⟩] 23)).heap[w.heap.size]? = some (.cells #[.int .i64 0, .int .i64 0, .string ⟨#[]⟩] 23)) := heap_alloc_new _ _
  have hB0 : Hid (Below w.heap.size w (w.alloc (.cells #[.int .i64 0, .int .i64 0, .string ⟨#[]⟩] 23))) := (Below.refl _ _).alloc (Nat.le_refl _) _
  have hs0 : Hid ((w.alloc (.cells #[.int .i64 0, .int .i64 0, .string ⟨#[]⟩] 23)).heap.size = w.heap.size + 1) := by show (w.heap.push _).size = _; simp
  rcases read_start s with ⟨e1, e2⟩ | ⟨e1, e2⟩ | ⟨e1, hpos, neg, hneg, e2⟩ | ⟨e1, e2⟩ <;> rw [e1] at hst <;> rw [e2] <;> clear e1 e2

  · go_enter Tryd.func11, Tryd.ntmps11
    go_wp2_with fail
    refine (hst _).mono ?_
    rintro e w' ⟨rfl, rfl⟩
    clear hst
    go_wp2
    have hRow := run_loadVar_row (P := Tryd.prog) _ w.heap.size 23 23 _ _ _ hA0.out Tryd.underlying23 rfl (by kernel_rfl)
    refine bodyPost_ret (v := .tuple #[.agg #[.int .i64 0, .int .i64 0, .string ⟨#[]⟩], .int .i64 0, .int .i64 7]) ((results_cell_tmp2 rfl _ _ _).trans (by simp [asAddr, hRow, Result.andThen])) rfl ⟨rfl, hB0.out⟩
  · have hcall := fun w => readtext_c s w hs
    generalize textS s s.size 1 [] = x at *
    obtain ⟨k, n, t, m, er⟩ := x
    simp only [RR.v] at hcall ⊢
    generalize tx t = tt at *
    go_enter Tryd.func11, Tryd.ntmps11
    go_wp2_with fail
    refine (hst _).mono ?_
    rintro e w' ⟨rfl, rfl⟩
    clear hst
    go_wp2_with fail
    refine (hcall _).mono ?_
    rintro e w1 ⟨rfl, hB⟩
    have hA : Hid (w1.heap[w.heap.size]? = some (.cells #[.int .i64 0, .int .i64 0, .string ⟨#[]⟩] 23)) := (hB.block _ (by rw [hs0.out]; omega)).trans hA0.out
    replace hB : Hid (Below w.heap.size w w1) := hB0.out.trans (hB.mono (by rw [hs0.out]; omega))
    obtain ⟨⟨g0, g1, g2⟩, r0, r1, r2⟩ := box_facts hA.out
    clear hcall hA0 hB0 hs0
    go_wp2
    have hRow := run_loadVar_row (P := Tryd.prog) _ w.heap.size 23 23 _ _ _ (heap_set3 hA.out (.int .i64 k) (.int .i64 n) (.string tt)) Tryd.underlying23 rfl (by kernel_rfl)
    refine bodyPost_ret (v := .tuple #[.agg #[.int .i64 k, .int .i64 n, .string tt], .int .i64 (m : Int), .int .i64 er]) ((results_cell_tmp2 rfl _ _ _).trans (by simp [asAddr, hRow, Result.andThen])) rfl ⟨rfl, ((hB.out.setCell (Nat.le_refl _) _).setCell (Nat.le_refl _) _).setCell (Nat.le_refl _) _⟩
  · have hcall := fun w => readnum_c s neg w hpos hs hneg
    generalize numS s neg s.size (if neg then 1 else 0) 0 = x at *
    obtain ⟨k, n, t, m, er⟩ := x
    simp only [RR.v] at hcall ⊢
    generalize tx t = tt at *
    go_enter Tryd.func11, Tryd.ntmps11
    go_wp2_with fail
    refine (hst _).mono ?_
    rintro e w' ⟨rfl, rfl⟩
    clear hst
    go_wp2_with fail
    refine (hcall _).mono ?_
    rintro e w1 ⟨rfl, hB⟩
    have hA : Hid (w1.heap[w.heap.size]? = some (.cells #[.int .i64 0, .int .i64 0, .string ⟨#[]⟩] 23)) := (hB.block _ (by rw [hs0.out]; omega)).trans hA0.out
    replace hB : Hid (Below w.heap.size w w1) := hB0.out.trans (hB.mono (by rw [hs0.out]; omega))
    obtain ⟨⟨g0, g1, g2⟩, r0, r1, r2⟩ := box_facts hA.out
    clear hcall hA0 hB0 hs0
    go_wp2
    have hRow := run_loadVar_row (P := Tryd.prog) _ w.heap.size 23 23 _ _ _ (heap_set3 hA.out (.int .i64 k) (.int .i64 n) (.string tt)) Tryd.underlying23 rfl (by kernel_rfl)
    refine bodyPost_ret (v := .tuple #[.agg #[.int .i64 k, .int .i64 n, .string tt], .int .i64 (m : Int), .int .i64 er]) ((results_cell_tmp2 rfl _ _ _).trans (by simp [asAddr, hRow, Result.andThen])) rfl ⟨rfl, ((hB.out.setCell (Nat.le_refl _) _).setCell (Nat.le_refl _) _).setCell (Nat.le_refl _) _⟩
  · go_enter Tryd.func11, Tryd.ntmps11
    go_wp2_with fail
    refine (hst _).mono ?_
    rintro e w' ⟨rfl, rfl⟩
    clear hst
    go_wp2
    have hRow := run_loadVar_row (P := Tryd.prog) _ w.heap.size 23 23 _ _ _ hA0.out Tryd.underlying23 rfl (by kernel_rfl)
    refine bodyPost_ret (v := .tuple #[.agg #[.int .i64 0, .int .i64 0, .string ⟨#[]⟩], .int .i64 0, .int .i64 2]) ((results_cell_tmp2 rfl _ _ _).trans (by simp [asAddr, hRow, Result.andThen])) rfl ⟨rfl, hB0.out⟩
end Go.Proofs.YtlpglldfchfaaabDoor
