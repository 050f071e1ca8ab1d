/-
  A NUMBER READ: the program's function, by contract.
-/
import Derived.Test.YtlpglldfchfaaabDoorRead1
namespace Go.Proofs.YtlpglldfchfaaabDoor
open Go.ChangeShapes Go.WideShapes Go.ChangeAt Go.RowKit

theorem num_step {s : ByteArray} {neg : Bool} {f i n d : Nat} (h : i < s.size) (hd : isDig (byteAt s i) = true) (e : byteAt s i - 48 = (d : Int)) (hf : s.size ≤ i + f) : ∃ g, s.size ≤ i + 1 + g ∧
    numS s neg f i n = if 10 * n + d ≤ 1000000000000 then numS s neg g (i + 1) (10 * n + d) else .bad 5 := by
  obtain ⟨g, rfl⟩ : ∃ g, f = g + 1 := ⟨f - 1, by omega⟩
  refine ⟨g, by omega, ?_⟩
  rw [numS, if_pos ⟨h, hd⟩, show (byteAt s i).toNat - 48 = d by
    unfold isDig at hd
    simp only [Bool.and_eq_true, decide_eq_true_eq] at hd
    omega]
theorem dig_bounds {b : Int} (h : isDig b = true) : ∃ d : Nat, b - 48 = (d : Int) ∧ d ≤ 9 ∧ 48 ≤ b ∧ b ≤ 57 := by
  unfold isDig at h
  simp only [Bool.and_eq_true, decide_eq_true_eq] at h
  exact ⟨(b - 48).toNat, by omega, by omega, h.1, h.2⟩
set_option maxHeartbeats 3200000 in
theorem readnum_c (s : ByteArray) (neg : Bool) (w : World) (h0 : 0 < s.size) (hs : s.size ≤ 1000) (hneg : (byteAt s 0 == 45) = neg) : Calls Tryd.prog 18 #[.string s] w fun e w' =>
    e = .returned (numS s neg s.size (if neg then 1 else 0) 0).v ∧ Below w.heap.size w w' := by
  have hdig := fun b w => rdig_c b w
  have hb0 := byteAt_eq (s := s) (k := 0) h0
  obtain ⟨R, hR⟩ : ∃ R, Hid (numS s neg s.size (if neg then 1 else 0) 0 = R) := ⟨_, (rfl : _ = _)⟩
  rw [hR.out]
  have hst : Hid ((if neg then (1 : Nat) else 0) ≤ s.size) := by show _ ≤ _; split <;> omega
  have hbel : Hid (∀ O, Below w.heap.size w (w.alloc O)) := fun O => (Below.refl _ _).alloc (Nat.le_refl _) O
  have hnew : Hid (∀ cs : Array Value, (w.alloc (.cells cs 23)).heap[w.heap.size]? = some (.cells cs 23)) := fun cs => heap_alloc_new _ _
  generalize byteAt s 0 = b0 at *
  cases neg with
  | false =>
    simp only [Bool.false_eq_true, if_false] at hR hst
    go_enter Tryd.func18, Tryd.ntmps18
    go_wp2_with fail
    go_loop [5, 6] (fun x i => ∃ (n j f : Nat), n ≤ 1000000000000 ∧ j ≤ s.size ∧ s.size ≤ j + f ∧ x = .int .i64 (n : Int) ∧ i = .int .i64 (j : Int) ∧ Hid (numS s false f j n = R)) (fun _ i => s.size - (intOf i).toNat)
    case atStart => exact ⟨0, _, s.size, by omega, hst.out, by omega, rfl, rfl, hR⟩
    case round =>
      obtain ⟨n, j, f, hn, hj, hf, rfl, rfl, hrel⟩ := hrel
      by_cases hlt : j < s.size
      · have hj1 : (j : Int) < (s.size : Int) := by omega
        have hbj := byteAt_eq (s := s) (k := j) hlt
        have hdj := fun w => hdig (byteAt s j) w
        cases hd : isDig (byteAt s j) with
        | true =>
          rw [hd] at hdj
          obtain ⟨d, hbd, hd9, hlo, hhi⟩ := dig_bounds hd
          obtain ⟨g, hg, hstep⟩ := num_step (neg := false) (n := n) hlt hd hbd hf
          rw [hrel.out] at hstep
          replace hstep := hid0 hstep
          generalize byteAt s j = b at *
          have hw8 : IntKind.u8.wrap (d : Int) = (d : Int) := by rw [IntKind.wrap_u8]; omega
          replace hg := hid0 hg
          clear hd hf hrel
          by_cases hbig : 10 * n + d ≤ 1000000000000
          · have hnext : Hid (numS s false g (j + 1) (10 * n + d) = R) := by have := hstep.out; rw [if_pos hbig] at this; exact this.symm
            have hbg : ¬ (1000000000000 : Int) < 10 * (n : Int) + (d : Int) := by omega
            clear hstep
            go_wp2_with fail
            refine (hdj _).mono ?_
            rintro e w' ⟨rfl, rfl⟩
            go_wp2
            go_round
            case rel => exact ⟨10 * n + d, j + 1, g, hbig, by omega, hg.out, by first | rfl | go_num, by go_num, hnext⟩
            case measure => simp [intOf]; omega
          · have hfin : Hid (R = .bad 5) := by have := hstep.out; rw [if_neg hbig] at this; exact this
            have hbg : (1000000000000 : Int) < 10 * (n : Int) + (d : Int) := by omega
            clear hstep
            go_wp2_with fail
            refine (hdj _).mono ?_
            rintro e w' ⟨rfl, rfl⟩
            go_wp2
            have hRow := run_loadVar_row (P := Tryd.prog) _ w.heap.size 23 23 _ _ _ (hnew.out #[.int .i64 0, .int .i64 0, .string ⟨#[]⟩]) Tryd.underlying23 rfl (by kernel_rfl)
            refine bodyPost_ret (v := .tuple #[.agg #[.int .i64 0, .int .i64 0, .string ⟨#[]⟩], .int .i64 0, .int .i64 5]) ((results_cell_tmp2 rfl _ _ _).trans (by simp [asAddr, hRow, Result.andThen])) rfl ⟨by rw [hfin.out]; rfl, hbel.out _⟩
        | false =>
          rw [hd] at hdj
          have hfin : Hid (R = ⟨1, if false then -(n : Int) else n, [], j, 0⟩) := by show _ = _; rw [← hrel.out]; exact num_end (by rintro ⟨_, h⟩; rw [hd] at h; cases h) f
          generalize byteAt s j = b at *
          clear hrel hd hf
          go_wp2_with fail
          refine (hdj _).mono ?_
          rintro e w' ⟨rfl, rfl⟩
          go_wp2
          have hRow := run_loadVar_row (P := Tryd.prog) _ w.heap.size 23 23 _ _ _ (hnew.out #[.int .i64 1, .int .i64 ((n : Int)), .string ⟨#[]⟩]) Tryd.underlying23 rfl (by kernel_rfl)
          refine bodyPost_ret (v := .tuple #[.agg #[.int .i64 1, .int .i64 ((n : Int)), .string ⟨#[]⟩], .int .i64 (j : Int), .int .i64 0]) ((results_cell_tmp2 rfl _ _ _).trans (by simp [asAddr, hRow, Result.andThen])) rfl ⟨by rw [hfin.out]; rfl, hbel.out _⟩
      · have hj1 : ¬ (j : Int) < (s.size : Int) := by omega
        have hfin : Hid (R = ⟨1, if false then -(n : Int) else n, [], j, 0⟩) := by show _ = _; rw [← hrel.out]; exact num_end (by rintro ⟨h, _⟩; exact hlt h) f
        clear hrel hf
        go_wp2
        have hRow := run_loadVar_row (P := Tryd.prog) _ w.heap.size 23 23 _ _ _ (hnew.out #[.int .i64 1, .int .i64 ((n : Int)), .string ⟨#[]⟩]) Tryd.underlying23 rfl (by kernel_rfl)
        refine bodyPost_ret (v := .tuple #[.agg #[.int .i64 1, .int .i64 ((n : Int)), .string ⟨#[]⟩], .int .i64 (j : Int), .int .i64 0]) ((results_cell_tmp2 rfl _ _ _).trans (by simp [asAddr, hRow, Result.andThen])) rfl ⟨by rw [hfin.out]; rfl, hbel.out _⟩
  | true =>
    simp only [if_true] at hR hst
    go_enter Tryd.func18, Tryd.ntmps18
    go_wp2_with fail
    go_loop [5, 6] (fun x i => ∃ (n j f : Nat), n ≤ 1000000000000 ∧ j ≤ s.size ∧ s.size ≤ j + f ∧ x = .int .i64 (n : Int) ∧ i = .int .i64 (j : Int) ∧ Hid (numS s true f j n = R)) (fun _ i => s.size - (intOf i).toNat)
    case atStart => exact ⟨0, _, s.size, by omega, hst.out, by omega, rfl, rfl, hR⟩
    case round =>
      obtain ⟨n, j, f, hn, hj, hf, rfl, rfl, hrel⟩ := hrel
      by_cases hlt : j < s.size
      · have hj1 : (j : Int) < (s.size : Int) := by omega
        have hbj := byteAt_eq (s := s) (k := j) hlt
        have hdj := fun w => hdig (byteAt s j) w
        cases hd : isDig (byteAt s j) with
        | true =>
          rw [hd] at hdj
          obtain ⟨d, hbd, hd9, hlo, hhi⟩ := dig_bounds hd
          obtain ⟨g, hg, hstep⟩ := num_step (neg := true) (n := n) hlt hd hbd hf
          rw [hrel.out] at hstep
          replace hstep := hid0 hstep
          generalize byteAt s j = b at *
          have hw8 : IntKind.u8.wrap (d : Int) = (d : Int) := by rw [IntKind.wrap_u8]; omega
          replace hg := hid0 hg
          clear hd hf hrel
          by_cases hbig : 10 * n + d ≤ 1000000000000
          · have hnext : Hid (numS s true g (j + 1) (10 * n + d) = R) := by have := hstep.out; rw [if_pos hbig] at this; exact this.symm
            have hbg : ¬ (1000000000000 : Int) < 10 * (n : Int) + (d : Int) := by omega
            clear hstep
            go_wp2_with fail
            refine (hdj _).mono ?_
            rintro e w' ⟨rfl, rfl⟩
            go_wp2
            go_round
            case rel => exact ⟨10 * n + d, j + 1, g, hbig, by omega, hg.out, by first | rfl | go_num, by go_num, hnext⟩
            case measure => simp [intOf]; omega
          · have hfin : Hid (R = .bad 5) := by have := hstep.out; rw [if_neg hbig] at this; exact this
            have hbg : (1000000000000 : Int) < 10 * (n : Int) + (d : Int) := by omega
            clear hstep
            go_wp2_with fail
            refine (hdj _).mono ?_
            rintro e w' ⟨rfl, rfl⟩
            go_wp2
            have hRow := run_loadVar_row (P := Tryd.prog) _ w.heap.size 23 23 _ _ _ (hnew.out #[.int .i64 0, .int .i64 0, .string ⟨#[]⟩]) Tryd.underlying23 rfl (by kernel_rfl)
            refine bodyPost_ret (v := .tuple #[.agg #[.int .i64 0, .int .i64 0, .string ⟨#[]⟩], .int .i64 0, .int .i64 5]) ((results_cell_tmp2 rfl _ _ _).trans (by simp [asAddr, hRow, Result.andThen])) rfl ⟨by rw [hfin.out]; rfl, hbel.out _⟩
        | false =>
          rw [hd] at hdj
          have hfin : Hid (R = ⟨1, if true then -(n : Int) else n, [], j, 0⟩) := by show _ = _; rw [← hrel.out]; exact num_end (by rintro ⟨_, h⟩; rw [hd] at h; cases h) f
          generalize byteAt s j = b at *
          clear hrel hd hf
          go_wp2_with fail
          refine (hdj _).mono ?_
          rintro e w' ⟨rfl, rfl⟩
          go_wp2
          have hRow := run_loadVar_row (P := Tryd.prog) _ w.heap.size 23 23 _ _ _ (hnew.out #[.int .i64 1, .int .i64 (-(n : Int)), .string ⟨#[]⟩]) Tryd.underlying23 rfl (by kernel_rfl)
          refine bodyPost_ret (v := .tuple #[.agg #[.int .i64 1, .int .i64 (-(n : Int)), .string ⟨#[]⟩], .int .i64 (j : Int), .int .i64 0]) ((results_cell_tmp2 rfl _ _ _).trans (by simp [asAddr, hRow, Result.andThen])) rfl ⟨by rw [hfin.out]; rfl, hbel.out _⟩
      · have hj1 : ¬ (j : Int) < (s.size : Int) := by omega
        have hfin : Hid (R = ⟨1, if true then -(n : Int) else n, [], j, 0⟩) := by show _ = _; rw [← hrel.out]; exact num_end (by rintro ⟨h, _⟩; exact hlt h) f
        clear hrel hf
        go_wp2
        have hRow := run_loadVar_row (P := Tryd.prog) _ w.heap.size 23 23 _ _ _ (hnew.out #[.int .i64 1, .int .i64 (-(n : Int)), .string ⟨#[]⟩]) Tryd.underlying23 rfl (by kernel_rfl)
        refine bodyPost_ret (v := .tuple #[.agg #[.int .i64 1, .int .i64 (-(n : Int)), .string ⟨#[]⟩], .int .i64 (j : Int), .int .i64 0]) ((results_cell_tmp2 rfl _ _ _).trans (by simp [asAddr, hRow, Result.andThen])) rfl ⟨by rw [hfin.out]; rfl, hbel.out _⟩
end Go.Proofs.YtlpglldfchfaaabDoor
