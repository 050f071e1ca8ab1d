/-
  A VALUE READ: the reference's function, by contract.
-/
import Derived.Test.YtlpglldfchfaaaaRRead1
import Derived.Test.YtlpglldfchfaaaaRead2
namespace Go.Proofs.Ytlpglldfchfaaaa
open Go.ChangeShapes Go.WideShapes Go.ChangeAt Go.RowKit

theorem rrdig_c (b : Int) (w : World) : Calls Try.prog 13 #[.int .u8 b] w fun e w' => e = .returned (.bool (isDig b)) ∧ w' = w := by
  by_cases h1 : 48 ≤ b <;> by_cases h2 : b ≤ 57 <;> first | (exfalso; omega) | skip
  all_goals
    go_enter Try.func13, Try.ntmps13
    go_wp2
    go_ret
    exact ⟨ret_bool (by unfold isDig; simp [h1, h2]), rfl⟩
def cells0 : Obj := .cells #[.int .i64 0, .int .i64 0, .string ⟨#[]⟩] 24
theorem two_new (w : World) (a b : Obj) : ((w.alloc a).alloc b).heap[w.heap.size]? = some a ∧ ((w.alloc a).alloc b).heap[w.heap.size + 1]? = some b ∧ ((w.alloc a).alloc b).heap.size = w.heap.size + 2 ∧ Below w.heap.size w ((w.alloc a).alloc b) := by
  have h1 : (w.alloc a).heap.size = w.heap.size + 1 := by show (w.heap.push a).size = _; simp
  refine ⟨(heap_alloc_old _ _ (by rw [h1]; omega)).trans (heap_alloc_new _ _), ?_, ?_, ((Below.refl _ _).alloc (Nat.le_refl _) _).alloc (by rw [h1]; omega) _⟩
  · rw [← h1]; exact heap_alloc_new _ _
  · show ((w.heap.push a).push b).size = _; simp

set_option maxHeartbeats 6400000 in
theorem rread_c (s : ByteArray) (w : World) (hs : s.size ≤ 1000) : Calls Try.prog 6 #[.string s] w fun e w' =>
    e = .returned (readS s).v ∧ Below w.heap.size w w' := by
  have hdig := fun b w => rrdig_c b w
  obtain ⟨hA0, hN0, hs0, hB0⟩ := two_new w (.cells #[.int .i64 0, .int .i64 0, .string ⟨#[]⟩] 24) (.cells #[.int .i64 0, .int .i64 0, .string ⟨#[]⟩] 24)
  obtain ⟨w2, hw2⟩ : ∃ w2, w2 = (w.alloc (.cells #[.int .i64 0, .int .i64 0, .string ⟨#[]⟩] 24)).alloc (.cells #[.int .i64 0, .int .i64 0, .string ⟨#[]⟩] 24) := ⟨_, rfl⟩
  rw [← hw2] at hA0 hN0 hs0 hB0
  by_cases h0 : s.size = 0
  · have e : Hid (readS s = .bad 7) := by show _ = _; simp [readS, h0]
    obtain rfl : s = ⟨#[]⟩ := by
      apply ByteArray.ext
      apply Array.eq_empty_of_size_eq_zero
      exact h0
    rw [e.out]
    clear h0 hs hdig hA0 hN0 hs0 hB0 hw2
    have hRow := run_loadVar_row (P := Try.prog) _ w.heap.size 24 24 _ _ _ (two_new w (.cells #[.int .i64 0, .int .i64 0, .string ⟨#[]⟩] 24) (.cells #[.int .i64 0, .int .i64 0, .string ⟨#[]⟩] 24)).1 Try.underlying24 rfl (by kernel_rfl)
    have hB1 := hid0 (two_new w (.cells #[.int .i64 0, .int .i64 0, .string ⟨#[]⟩] 24) (.cells #[.int .i64 0, .int .i64 0, .string ⟨#[]⟩] 24)).2.2.2
    replace hRow := hid0 hRow
    go_enter Try.func6, Try.ntmps6
    go_wp2
    have hRow := hRow.out
    refine bodyPost_ret (v := .tuple #[.agg #[.int .i64 0, .int .i64 0, .string ⟨#[]⟩], .int .i64 0, .int .i64 7]) ((results_cell_tmp2 rfl _ _ _).trans (by simp [asAddr, hRow, Result.andThen])) rfl ⟨rfl, hB1.out⟩
  · have hE := list_none s h0
    have hE1 := list_one s
    have hs1 : 0 < s.size := by omega
    have hb0 := byteAt_eq (s := s) (k := 0) hs1
    by_cases h1 : s.size = 1 ∧ byteAt s 0 = 45
    · have e : Hid (readS s = .bad 7) := by show _ = _; simp [readS, h1]
      have hE2 : (s.toList == ([45] : List UInt8)) = true := by rw [hE1]; simp [h1]
      rw [e.out]
      clear h1 hE1 h0 hdig hA0 hN0 hs0 hB0 hw2
      have hRow := run_loadVar_row (P := Try.prog) _ w.heap.size 24 24 _ _ _ (two_new w (.cells #[.int .i64 0, .int .i64 0, .string ⟨#[]⟩] 24) (.cells #[.int .i64 0, .int .i64 0, .string ⟨#[]⟩] 24)).1 Try.underlying24 rfl (by kernel_rfl)
      have hB1 := hid0 (two_new w (.cells #[.int .i64 0, .int .i64 0, .string ⟨#[]⟩] 24) (.cells #[.int .i64 0, .int .i64 0, .string ⟨#[]⟩] 24)).2.2.2
      replace hRow := hid0 hRow
      go_enter Try.func6, Try.ntmps6
      go_wp2
      have hRow := hRow.out
      refine bodyPost_ret (v := .tuple #[.agg #[.int .i64 0, .int .i64 0, .string ⟨#[]⟩], .int .i64 0, .int .i64 7]) ((results_cell_tmp2 rfl _ _ _).trans (by simp [asAddr, hRow, Result.andThen])) rfl ⟨rfl, hB1.out⟩
    · have hE2 : (s.toList == ([45] : List UInt8)) = false := by
        rw [hE1, Bool.and_eq_false_iff, decide_eq_false_iff_not, decide_eq_false_iff_not]
        by_cases ha : s.size = 1
        · exact .inr fun hb => h1 ⟨ha, hb⟩
        · exact .inl ha
      have hread : Hid (readS s = if byteAt s 0 = 39 then textS s s.size 1 [] else if byteAt s 0 = 45 then (if isDig (byteAt s 1) then numS s true s.size 1 0 else .bad 2) else if isDig (byteAt s 0) then numS s false s.size 0 0 else .bad 2) := by
        show _ = _
        unfold readS; rw [if_neg (by intro h; rcases h with h | h; exact h0 h; exact h1 h)]
      have hl1 : byteAt s 0 = 45 → 1 < s.size := fun h => by
        rcases Nat.lt_or_ge 1 s.size with h2 | h2
        · exact h2
        · exact absurd ⟨by omega, h⟩ h1
      have hbi : ∀ h : 1 < s.size, ((s[1]).toNat : Int) = byteAt s 1 := fun h => byteAt_eq h
      replace hbi := hid0 hbi
      clear hE1 h1 h0
      generalize byteAt s 1 = b1 at *
      generalize byteAt s 0 = b0 at *
      by_cases h2 : b0 = 39
      · have hq : (b0 == 39) = true := by simp [h2]
        have hcall := fun w => rtext_c s w hs
        have hfinR : Hid (readS s = textS s s.size 1 []) := by show _ = _; rw [hread.out, if_pos h2]
        rw [hfinR.out]
        clear h2 hread hl1 hbi hfinR hdig
        generalize textS s s.size 1 [] = x at *
        obtain ⟨k, n, t, m, er⟩ := x
        simp only [RR.v] at hcall ⊢
        generalize tx t = tt at *
        replace hA0 := hid0 hA0
        replace hB0 := hid0 hB0
        replace hs0 := hid0 hs0
        go_enter Try.func6, Try.ntmps6
        go_wp2_with fail
        rw [← hw2]
        refine (hcall _).mono ?_
        rintro e w1 ⟨rfl, hB⟩
        have hA : Hid (w1.heap[w.heap.size]? = some (.cells #[.int .i64 0, .int .i64 0, .string ⟨#[]⟩] 24)) := (hB.block _ (by rw [hs0.out]; omega)).trans hA0.out
        replace hB : Hid (Below w.heap.size w w1) := hB0.out.trans (hB.mono (by rw [hs0.out]; omega))
        obtain ⟨⟨g0, g1, g2⟩, r0, r1, r2⟩ := box_facts hA.out
        clear hcall hA0 hB0 hs0 hN0 hw2
        go_wp2
        have hRow := run_loadVar_row (P := Try.prog) _ w.heap.size 24 24 _ _ _ (heap_set3 hA.out (.int .i64 k) (.int .i64 n) (.string tt)) Try.underlying24 rfl (by kernel_rfl)
        refine bodyPost_ret (v := .tuple #[.agg #[.int .i64 k, .int .i64 n, .string tt], .int .i64 (m : Int), .int .i64 er]) ((results_cell_tmp2 rfl _ _ _).trans (by simp [asAddr, hRow, Result.andThen])) rfl ⟨by rfl, ((hB.out.setCell (Nat.le_refl _) _).setCell (Nat.le_refl _) _).setCell (Nat.le_refl _) _⟩
      · have hq : (b0 == 39) = false := by simp [h2]
        by_cases h3 : b0 = 45
        · have hq3 : (b0 == 45) = true := by simp [h3]
          have hl := hl1 h3
          have hb1 := hbi.out hl
          have hc := fun w => hdig b1 w
          replace hread : Hid (readS s = if isDig b1 then numS s true s.size 1 0 else .bad 2) := by show _ = _; rw [hread.out, if_neg h2, if_pos h3]
          clear h2 h3 hl1
          go_enter Try.func6, Try.ntmps6
          go_wp2_with fail
          go_quiet (fail)
          obtain ⟨wq, hwq⟩ : ∃ wq, wq = ((w.alloc (.cells #[.int .i64 0, .int .i64 0, .string ⟨#[]⟩] 24)).alloc (.cells #[.int .i64 0, .int .i64 0, .string ⟨#[]⟩] 24)).drewN nq := ⟨_, rfl⟩
          rw [← hwq]
          have hA : Hid (wq.heap[w.heap.size]? = some (.cells #[.int .i64 0, .int .i64 0, .string ⟨#[]⟩] 24)) := by rw [hwq, ← hw2]; exact hA0
          have hN : Hid (wq.heap[w.heap.size + 1]? = some (.cells #[.int .i64 0, .int .i64 0, .string ⟨#[]⟩] 24)) := by rw [hwq, ← hw2]; exact hN0
          have hB : Hid (Below w.heap.size w wq) := by rw [hwq, ← hw2]; exact below_drewN hB0 _
          clear hwq hA0 hN0 hB0 hs0 hw2
          cases hd : isDig b1 with
          | false =>
            rw [hd] at hc
            have hfin : Hid (readS s = .bad 2) := by show _ = _; rw [hread.out, hd]; rfl
            obtain ⟨⟨g0, g1, g2⟩, r0, r1, r2⟩ := box_facts hA.out
            obtain ⟨⟨k0, k1, k2⟩, -⟩ := box_facts hN.out
            clear hd
            go_wp2_with fail
            refine (hc _).mono ?_
            rintro e wq ⟨rfl, rfl⟩
            go_wp2
            have hRow := run_loadVar_row (P := Try.prog) _ w.heap.size 24 24 _ _ _ (heap_set3 hA.out (.int .i64 0) (.int .i64 0) (.string ⟨#[]⟩)) Try.underlying24 rfl (by kernel_rfl)
            refine bodyPost_ret (v := .tuple #[.agg #[.int .i64 0, .int .i64 0, .string ⟨#[]⟩], .int .i64 0, .int .i64 2]) ((results_cell_tmp2 rfl _ _ _).trans (by simp [asAddr, hRow, Result.andThen])) rfl ⟨by rw [hfin.out]; rfl, ((hB.out.setCell (Nat.le_refl _) _).setCell (Nat.le_refl _) _).setCell (Nat.le_refl _) _⟩
          | true =>
            rw [hd] at hc
            obtain ⟨R, hR⟩ : ∃ R, Hid (numS s true s.size 1 0 = R) := ⟨_, (rfl : _ = _)⟩
            have hfinR : Hid (readS s = R) := by show _ = _; rw [hread.out, hd]; exact hR.out
            clear hd hread
            go_wp2_with fail
            refine (hc _).mono ?_
            rintro e wq ⟨rfl, rfl⟩
            clear hc hb1 hbi
            go_wp2_with fail
            go_loop [6, 7] (fun i x => ∃ (n j f : Nat), n ≤ 1000000000000 ∧ j ≤ s.size ∧ s.size ≤ j + f ∧ x = .int .i64 (n : Int) ∧ i = .int .i64 (j : Int) ∧ Hid (numS s true f j n = R)) (fun i _ => s.size - (intOf i).toNat)
            case atStart => exact ⟨0, 1, s.size, by omega, by omega, by omega, rfl, rfl, hR⟩
            case round =>
              clear hR
              obtain ⟨n, j, f, hn, hj, hf, rfl, rfl, hrel⟩ := hrel
              obtain ⟨⟨g0, g1, g2⟩, r0, r1, r2⟩ := box_facts hA.out
              obtain ⟨⟨k0, k1, k2⟩, -⟩ := box_facts hN.out
              by_cases hlt : j < s.size
              · have hj1 : (j : Int) < (s.size : Int) := by omega
                have hbj := byteAt_eq (s := s) (k := j) hlt
                have hdj := fun w => hdig (byteAt s j) w
                cases hd : isDig (byteAt s j) with
                | true =>
                  rw [hd] at hdj
                  obtain ⟨d, hbd, hd9, hlo, hhi⟩ := dig_bounds hd
                  obtain ⟨g, hg, hstep⟩ := num_step (neg := true) (n := n) hlt hd hbd hf
                  rw [hrel.out] at hstep
                  replace hstep := hid0 hstep
                  generalize byteAt s j = b at *
                  have hw8 : IntKind.u8.wrap (d : Int) = (d : Int) := by rw [IntKind.wrap_u8]; omega
                  replace hg := hid0 hg
                  clear hd hf hrel
                  by_cases hbig : 10 * n + d ≤ 1000000000000
                  · have hnext : Hid (numS s true g (j + 1) (10 * n + d) = R) := by have := hstep.out; rw [if_pos hbig] at this; exact this.symm
                    have hbg : ¬ (1000000000000 : Int) < 10 * (n : Int) + (d : Int) := by omega
                    clear hstep g0 g1 g2 r0 r1 r2 k0 k1 k2
                    go_wp2_with fail
                    refine (hdj _).mono ?_
                    rintro e wq ⟨rfl, rfl⟩
                    go_wp2
                    go_round
                    case rel => exact ⟨10 * n + d, j + 1, g, hbig, by omega, hg.out, by first | rfl | go_num, by go_num, hnext⟩
                    case measure => simp [intOf]; omega
                  · have hfin : Hid (R = .bad 5) := by have := hstep.out; rw [if_neg hbig] at this; exact this
                    have hbg : (1000000000000 : Int) < 10 * (n : Int) + (d : Int) := by omega
                    clear hstep
                    go_wp2_with fail
                    refine (hdj _).mono ?_
                    rintro e wq ⟨rfl, rfl⟩
                    go_wp2
                    have hRow := run_loadVar_row (P := Try.prog) _ w.heap.size 24 24 _ _ _ (heap_set3 hA.out (.int .i64 0) (.int .i64 0) (.string ⟨#[]⟩)) Try.underlying24 rfl (by kernel_rfl)
                    refine bodyPost_ret (v := .tuple #[.agg #[.int .i64 0, .int .i64 0, .string ⟨#[]⟩], .int .i64 0, .int .i64 5]) ((results_cell_tmp2 rfl _ _ _).trans (by simp [asAddr, hRow, Result.andThen])) rfl ⟨by rw [hfinR.out, hfin.out]; rfl, ((hB.out.setCell (Nat.le_refl _) _).setCell (Nat.le_refl _) _).setCell (Nat.le_refl _) _⟩
                | false =>
                  rw [hd] at hdj
                  have hfin : Hid (R = ⟨1, if true then -(n : Int) else n, [], j, 0⟩) := by show _ = _; rw [← hrel.out]; exact num_end (by rintro ⟨_, h⟩; rw [hd] at h; cases h) f
                  generalize byteAt s j = b at *
                  clear hrel hd hf
                  go_wp2_with fail
                  refine (hdj _).mono ?_
                  rintro e wq ⟨rfl, rfl⟩
                  go_wp2
                  have hRow := run_loadVar_row (P := Try.prog) _ w.heap.size 24 24 _ _ _ (heap_set3 hA.out (.int .i64 1) (.int .i64 (-(n : Int))) (.string ⟨#[]⟩)) Try.underlying24 rfl (by kernel_rfl)
                  refine bodyPost_ret (v := .tuple #[.agg #[.int .i64 1, .int .i64 (-(n : Int)), .string ⟨#[]⟩], .int .i64 (j : Int), .int .i64 0]) ((results_cell_tmp2 rfl _ _ _).trans (by simp [asAddr, hRow, Result.andThen])) rfl ⟨by rw [hfinR.out, hfin.out]; rfl, ((hB.out.setCell (Nat.le_refl _) _).setCell (Nat.le_refl _) _).setCell (Nat.le_refl _) _⟩
              · have hj1 : ¬ (j : Int) < (s.size : Int) := by omega
                have hfin : Hid (R = ⟨1, if true then -(n : Int) else n, [], j, 0⟩) := by show _ = _; rw [← hrel.out]; exact num_end (by rintro ⟨h, _⟩; exact hlt h) f
                clear hrel hf
                go_wp2
                have hRow := run_loadVar_row (P := Try.prog) _ w.heap.size 24 24 _ _ _ (heap_set3 hA.out (.int .i64 1) (.int .i64 (-(n : Int))) (.string ⟨#[]⟩)) Try.underlying24 rfl (by kernel_rfl)
                refine bodyPost_ret (v := .tuple #[.agg #[.int .i64 1, .int .i64 (-(n : Int)), .string ⟨#[]⟩], .int .i64 (j : Int), .int .i64 0]) ((results_cell_tmp2 rfl _ _ _).trans (by simp [asAddr, hRow, Result.andThen])) rfl ⟨by rw [hfinR.out, hfin.out]; rfl, ((hB.out.setCell (Nat.le_refl _) _).setCell (Nat.le_refl _) _).setCell (Nat.le_refl _) _⟩
        · have hq3 : (b0 == 45) = false := by simp [h3]
          have hc := fun w => hdig b0 w
          have hb1 : True := trivial
          replace hread : Hid (readS s = if isDig b0 then numS s false s.size 0 0 else .bad 2) := by show _ = _; rw [hread.out, if_neg h2, if_neg h3]
          clear h2 h3 hl1
          go_enter Try.func6, Try.ntmps6
          go_wp2_with fail
          go_quiet (fail)
          obtain ⟨wq, hwq⟩ : ∃ wq, wq = ((w.alloc (.cells #[.int .i64 0, .int .i64 0, .string ⟨#[]⟩] 24)).alloc (.cells #[.int .i64 0, .int .i64 0, .string ⟨#[]⟩] 24)).drewN nq := ⟨_, rfl⟩
          rw [← hwq]
          have hA : Hid (wq.heap[w.heap.size]? = some (.cells #[.int .i64 0, .int .i64 0, .string ⟨#[]⟩] 24)) := by rw [hwq, ← hw2]; exact hA0
          have hN : Hid (wq.heap[w.heap.size + 1]? = some (.cells #[.int .i64 0, .int .i64 0, .string ⟨#[]⟩] 24)) := by rw [hwq, ← hw2]; exact hN0
          have hB : Hid (Below w.heap.size w wq) := by rw [hwq, ← hw2]; exact below_drewN hB0 _
          clear hwq hA0 hN0 hB0 hs0 hw2
          cases hd : isDig b0 with
          | false =>
            rw [hd] at hc
            have hfin : Hid (readS s = .bad 2) := by show _ = _; rw [hread.out, hd]; rfl
            obtain ⟨⟨g0, g1, g2⟩, r0, r1, r2⟩ := box_facts hA.out
            obtain ⟨⟨k0, k1, k2⟩, -⟩ := box_facts hN.out
            clear hd
            go_wp2_with fail
            refine (hc _).mono ?_
            rintro e wq ⟨rfl, rfl⟩
            go_wp2
            have hRow := run_loadVar_row (P := Try.prog) _ w.heap.size 24 24 _ _ _ (heap_set3 hA.out (.int .i64 0) (.int .i64 0) (.string ⟨#[]⟩)) Try.underlying24 rfl (by kernel_rfl)
            refine bodyPost_ret (v := .tuple #[.agg #[.int .i64 0, .int .i64 0, .string ⟨#[]⟩], .int .i64 0, .int .i64 2]) ((results_cell_tmp2 rfl _ _ _).trans (by simp [asAddr, hRow, Result.andThen])) rfl ⟨by rw [hfin.out]; rfl, ((hB.out.setCell (Nat.le_refl _) _).setCell (Nat.le_refl _) _).setCell (Nat.le_refl _) _⟩
          | true =>
            rw [hd] at hc
            obtain ⟨R, hR⟩ : ∃ R, Hid (numS s false s.size 0 0 = R) := ⟨_, (rfl : _ = _)⟩
            have hfinR : Hid (readS s = R) := by show _ = _; rw [hread.out, hd]; exact hR.out
            clear hd hread
            go_wp2_with fail
            refine (hc _).mono ?_
            rintro e wq ⟨rfl, rfl⟩
            clear hc hb1 hbi
            go_wp2_with fail
            go_loop [6, 7] (fun i x => ∃ (n j f : Nat), n ≤ 1000000000000 ∧ j ≤ s.size ∧ s.size ≤ j + f ∧ x = .int .i64 (n : Int) ∧ i = .int .i64 (j : Int) ∧ Hid (numS s false f j n = R)) (fun i _ => s.size - (intOf i).toNat)
            case atStart => exact ⟨0, 0, s.size, by omega, by omega, by omega, rfl, rfl, hR⟩
            case round =>
              clear hR
              obtain ⟨n, j, f, hn, hj, hf, rfl, rfl, hrel⟩ := hrel
              obtain ⟨⟨g0, g1, g2⟩, r0, r1, r2⟩ := box_facts hA.out
              obtain ⟨⟨k0, k1, k2⟩, -⟩ := box_facts hN.out
              by_cases hlt : j < s.size
              · have hj1 : (j : Int) < (s.size : Int) := by omega
                have hbj := byteAt_eq (s := s) (k := j) hlt
                have hdj := fun w => hdig (byteAt s j) w
                cases hd : isDig (byteAt s j) with
                | true =>
                  rw [hd] at hdj
                  obtain ⟨d, hbd, hd9, hlo, hhi⟩ := dig_bounds hd
                  obtain ⟨g, hg, hstep⟩ := num_step (neg := false) (n := n) hlt hd hbd hf
                  rw [hrel.out] at hstep
                  replace hstep := hid0 hstep
                  generalize byteAt s j = b at *
                  have hw8 : IntKind.u8.wrap (d : Int) = (d : Int) := by rw [IntKind.wrap_u8]; omega
                  replace hg := hid0 hg
                  clear hd hf hrel
                  by_cases hbig : 10 * n + d ≤ 1000000000000
                  · have hnext : Hid (numS s false g (j + 1) (10 * n + d) = R) := by have := hstep.out; rw [if_pos hbig] at this; exact this.symm
                    have hbg : ¬ (1000000000000 : Int) < 10 * (n : Int) + (d : Int) := by omega
                    clear hstep g0 g1 g2 r0 r1 r2 k0 k1 k2
                    go_wp2_with fail
                    refine (hdj _).mono ?_
                    rintro e wq ⟨rfl, rfl⟩
                    go_wp2
                    go_round
                    case rel => exact ⟨10 * n + d, j + 1, g, hbig, by omega, hg.out, by first | rfl | go_num, by go_num, hnext⟩
                    case measure => simp [intOf]; omega
                  · have hfin : Hid (R = .bad 5) := by have := hstep.out; rw [if_neg hbig] at this; exact this
                    have hbg : (1000000000000 : Int) < 10 * (n : Int) + (d : Int) := by omega
                    clear hstep
                    go_wp2_with fail
                    refine (hdj _).mono ?_
                    rintro e wq ⟨rfl, rfl⟩
                    go_wp2
                    have hRow := run_loadVar_row (P := Try.prog) _ w.heap.size 24 24 _ _ _ (heap_set3 hA.out (.int .i64 0) (.int .i64 0) (.string ⟨#[]⟩)) Try.underlying24 rfl (by kernel_rfl)
                    refine bodyPost_ret (v := .tuple #[.agg #[.int .i64 0, .int .i64 0, .string ⟨#[]⟩], .int .i64 0, .int .i64 5]) ((results_cell_tmp2 rfl _ _ _).trans (by simp [asAddr, hRow, Result.andThen])) rfl ⟨by rw [hfinR.out, hfin.out]; rfl, ((hB.out.setCell (Nat.le_refl _) _).setCell (Nat.le_refl _) _).setCell (Nat.le_refl _) _⟩
                | false =>
                  rw [hd] at hdj
                  have hfin : Hid (R = ⟨1, if false then -(n : Int) else n, [], j, 0⟩) := by show _ = _; rw [← hrel.out]; exact num_end (by rintro ⟨_, h⟩; rw [hd] at h; cases h) f
                  generalize byteAt s j = b at *
                  clear hrel hd hf
                  go_wp2_with fail
                  refine (hdj _).mono ?_
                  rintro e wq ⟨rfl, rfl⟩
                  go_wp2
                  have hRow := run_loadVar_row (P := Try.prog) _ w.heap.size 24 24 _ _ _ (heap_set3 hA.out (.int .i64 1) (.int .i64 ((n : Int))) (.string ⟨#[]⟩)) Try.underlying24 rfl (by kernel_rfl)
                  refine bodyPost_ret (v := .tuple #[.agg #[.int .i64 1, .int .i64 ((n : Int)), .string ⟨#[]⟩], .int .i64 (j : Int), .int .i64 0]) ((results_cell_tmp2 rfl _ _ _).trans (by simp [asAddr, hRow, Result.andThen])) rfl ⟨by rw [hfinR.out, hfin.out]; rfl, ((hB.out.setCell (Nat.le_refl _) _).setCell (Nat.le_refl _) _).setCell (Nat.le_refl _) _⟩
              · have hj1 : ¬ (j : Int) < (s.size : Int) := by omega
                have hfin : Hid (R = ⟨1, if false then -(n : Int) else n, [], j, 0⟩) := by show _ = _; rw [← hrel.out]; exact num_end (by rintro ⟨h, _⟩; exact hlt h) f
                clear hrel hf
                go_wp2
                have hRow := run_loadVar_row (P := Try.prog) _ w.heap.size 24 24 _ _ _ (heap_set3 hA.out (.int .i64 1) (.int .i64 ((n : Int))) (.string ⟨#[]⟩)) Try.underlying24 rfl (by kernel_rfl)
                refine bodyPost_ret (v := .tuple #[.agg #[.int .i64 1, .int .i64 ((n : Int)), .string ⟨#[]⟩], .int .i64 (j : Int), .int .i64 0]) ((results_cell_tmp2 rfl _ _ _).trans (by simp [asAddr, hRow, Result.andThen])) rfl ⟨by rw [hfinR.out, hfin.out]; rfl, ((hB.out.setCell (Nat.le_refl _) _).setCell (Nat.le_refl _) _).setCell (Nat.le_refl _) _⟩
end Go.Proofs.Ytlpglldfchfaaaa
