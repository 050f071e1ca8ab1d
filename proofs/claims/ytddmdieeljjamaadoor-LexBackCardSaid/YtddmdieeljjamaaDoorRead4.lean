/-
  A VALUE READ: how it begins, and numbers: the program's functions, by contract.
-/
import Derived.Test.YtddmdieeljjamaaDoorReadMath
import Derived.Laws.Rows
import Derived.Laws.ResultCell
namespace Go.Proofs.YtddmdieeljjamaaDoor
open Go.ChangeShapes Go.WideShapes Go.ChangeAt Go.RowKit

theorem hid0 {p : Prop} (h : p) : Hid p := h
theorem results_cell_tmp2 {fn : Func} {p u v : Tmp} {ty : TypeId} (h : fn.results = #[.cell p ty, .tmp u, .tmp v]) (tmps : Array Value) (P : Program) (w : World) :
    (results fn tmps).run P w =
      ((asAddr (tmps.getD p undef)).run P w).andThen fun a w₁ => ((loadVar ty a).run P w₁).andThen fun x w₂ => .ok (.tuple #[x, tmps.getD u undef, tmps.getD v undef]) w₂ := by
  simp only [results, h]
  simp [Sem.run_bind, Result.andThen]
theorem rdig_c (b : Int) (w : World) : Calls Tryd.prog 57 #[.int .u8 b] w fun e w' => e = .returned (.bool (isDig b)) ∧ w' = w := by
  by_cases h1 : 48 ≤ b <;> by_cases h2 : b ≤ 57 <;> first | (exfalso; omega) | skip
  all_goals
    go_enter Tryd.func57, Tryd.ntmps57
    go_wp2
    go_ret
    exact ⟨ret_bool (by unfold isDig; simp [h1, h2]), rfl⟩
theorem special_c (b : Int) (w : World) : Calls Tryd.prog 29 #[.int .u8 b] w fun e w' => e = .returned (.bool (isSp b)) ∧ w' = w := by
  by_cases h1 : b = 39
  · have h3 : (b == 39) = true := by simp [h1]
    have e : Hid (isSp b = true) := by show _ = _; simp [isSp, h1]
    rw [e.out]
    clear h1
    go_enter Tryd.func29, Tryd.ntmps29
    go_wp2
    go_ret
    exact ⟨rfl, rfl⟩
  · have h3 : (b == 39) = false := by simp [h1]
    have e : Hid (isSp b = (b == 92)) := by
      show _ = _
      rw [Bool.eq_iff_iff]; simp [isSp, h1]
    rw [e.out]
    clear h1
    go_enter Tryd.func29, Tryd.ntmps29
    go_wp2
    go_ret
    exact ⟨rfl, rfl⟩
/-- With what a text begins. -/
def startS (s : ByteArray) : Int :=
  if s.size = 0 ∨ (s.size = 1 ∧ byteAt s 0 = 45) then 3
  else if byteAt s 0 = 39 then 2
  else if byteAt s 0 = 45 then (if isDig (byteAt s 1) then 1 else 0)
  else if isDig (byteAt s 0) then 1 else 0
theorem toList_size (s : ByteArray) : s.toList.length = s.size := by rw [Go.ByteArray.toList_eq]; rfl
theorem list_one (s : ByteArray) : (s.toList == ([45] : List UInt8)) = (decide (s.size = 1) && decide (byteAt s 0 = 45)) := by
  have hl := toList_size s
  have hb : byteAt s 0 = ((s.toList.getD 0 0).toNat : Int) := by rw [Go.ByteArray.toList_eq]; rfl
  rw [hb, ← hl]
  match s.toList with
  | [] => rfl
  | [x] =>
    simp only [List.length_singleton, decide_true, Bool.true_and, List.getD_cons_zero]
    rw [Bool.eq_iff_iff]
    simp only [beq_iff_eq, List.cons.injEq, and_true, decide_eq_true_eq]
    constructor
    · rintro rfl; rfl
    · intro h
      apply UInt8.toNat_inj.1
      have : (45 : UInt8).toNat = 45 := rfl
      omega
  | x :: y :: t =>
    rw [Bool.eq_iff_iff]; simp
theorem list_none (s : ByteArray) (h : s.size ≠ 0) : (s.toList == ([] : List UInt8)) = false := by
  have hl := toList_size s
  match hs : s.toList with
  | [] => rw [hs] at hl; simp at hl; omega
  | _ :: _ => rfl
set_option maxHeartbeats 1600000 in
theorem start_c (s : ByteArray) (w : World) (hs : s.size ≤ 1000) : Calls Tryd.prog 48 #[.string s] w fun e w' => e = .returned (.int .i64 (startS s)) ∧ w' = w := by
  have hdig := fun b w => rdig_c b w
  by_cases h0 : s.size = 0
  · have e : Hid (startS s = 3) := by show _ = _; simp [startS, h0]
    obtain rfl : s = ⟨#[]⟩ := by
      apply ByteArray.ext
      apply Array.eq_empty_of_size_eq_zero
      exact h0
    rw [e.out]
    clear h0 hs
    go_enter Tryd.func48, Tryd.ntmps48
    go_wp2
    go_ret
    exact ⟨rfl, rfl⟩
  · have hE := list_none s h0
    have hE1 := list_one s
    have hs0 : 0 < s.size := by omega
    have hb0 := byteAt_eq (s := s) (k := 0) hs0
    by_cases h1 : s.size = 1 ∧ byteAt s 0 = 45
    · have e : Hid (startS s = 3) := by show _ = _; simp [startS, h1]
      have hE2 : (s.toList == ([45] : List UInt8)) = true := by rw [hE1]; simp [h1]
      rw [e.out]
      clear h1 hE1 h0
      go_enter Tryd.func48, Tryd.ntmps48
      go_wp2
      go_ret
      exact ⟨rfl, rfl⟩
    · have hE2 : (s.toList == ([45] : List UInt8)) = false := by
        rw [hE1, Bool.and_eq_false_iff, decide_eq_false_iff_not, decide_eq_false_iff_not]
        by_cases ha : s.size = 1
        · exact .inr fun hb => h1 ⟨ha, hb⟩
        · exact .inl ha
      have hst : Hid (startS s = if byteAt s 0 = 39 then 2 else if byteAt s 0 = 45 then (if isDig (byteAt s 1) then 1 else 0) else if isDig (byteAt s 0) then 1 else 0) := by
        show _ = _
        unfold startS; rw [if_neg (by intro h; rcases h with h | h; exact h0 h; exact h1 h)]
      have hs1 : byteAt s 0 = 45 → 1 < s.size := fun h => by
        rcases Nat.lt_or_ge 1 s.size with h2 | h2
        · exact h2
        · exact absurd ⟨by omega, h⟩ h1
      have hb1 : ∀ h : 1 < s.size, ((s[1]).toNat : Int) = byteAt s 1 := fun h => byteAt_eq h
      replace hs1 := hid0 hs1
      replace hb1 := hid0 hb1
      clear hE1 h1 h0
      generalize byteAt s 1 = b1 at *
      generalize byteAt s 0 = b0 at *
      obtain ⟨R, hR⟩ : ∃ R, Hid (startS s = R) := ⟨_, (rfl : _ = _)⟩
      rw [hR.out] at hst ⊢
      by_cases h2 : b0 = 39
      · have hq : (b0 == 39) = true := by simp [h2]
        have e : Hid (R = 2) := by show _ = _; rw [hst.out, if_pos h2]
        rw [e.out]
        clear h2 hst hR hdig
        go_enter Tryd.func48, Tryd.ntmps48
        go_wp2
        go_ret
        exact ⟨rfl, rfl⟩
      · have hq : (b0 == 39) = false := by simp [h2]
        by_cases h3 : b0 = 45
        · have hq3 : (b0 == 45) = true := by simp [h3]
          have hd0 : Hid (isDig b0 = false) := by show _ = _; rw [h3]; rfl
          have hl := hs1.out h3
          have hb1' := hb1.out hl
          have hc0 := fun w => hdig b0 w
          rw [hd0.out] at hc0
          have hc1 := fun w => hdig b1 w
          have e : Hid (R = if isDig b1 then 1 else 0) := by show _ = _; rw [hst.out, if_neg h2, if_pos h3]
          clear h2 h3 hst hR hdig
          cases hd : isDig b1 with
          | false =>
            rw [hd] at hc1 e
            have e2 : Hid (R = 0) := e.out
            rw [e2.out]
            clear hd
            go_enter Tryd.func48, Tryd.ntmps48
            go_wp2_with fail
            refine (hc0 _).mono ?_
            rintro e w' ⟨rfl, rfl⟩
            go_wp2_with fail
            refine (hc1 _).mono ?_
            rintro e w' ⟨rfl, rfl⟩
            go_wp2
            go_ret
            exact ⟨rfl, rfl⟩
          | true =>
            rw [hd] at hc1 e
            have e2 : Hid (R = 1) := e.out
            rw [e2.out]
            clear hd
            go_enter Tryd.func48, Tryd.ntmps48
            go_wp2_with fail
            refine (hc0 _).mono ?_
            rintro e w' ⟨rfl, rfl⟩
            go_wp2_with fail
            refine (hc1 _).mono ?_
            rintro e w' ⟨rfl, rfl⟩
            go_wp2
            go_ret
            exact ⟨rfl, rfl⟩
        · have hq3 : (b0 == 45) = false := by simp [h3]
          have hc0 := fun w => hdig b0 w
          have e : Hid (R = if isDig b0 then 1 else 0) := by show _ = _; rw [hst.out, if_neg h2, if_neg h3]
          clear h2 h3 hst hR hdig
          cases hd : isDig b0 with
          | false =>
            rw [hd] at hc0 e
            have e2 : Hid (R = 0) := e.out
            rw [e2.out]
            clear hd
            go_enter Tryd.func48, Tryd.ntmps48
            go_wp2_with fail
            refine (hc0 _).mono ?_
            rintro e w' ⟨rfl, rfl⟩
            go_wp2
            go_ret
            exact ⟨rfl, rfl⟩
          | true =>
            rw [hd] at hc0 e
            have e2 : Hid (R = 1) := e.out
            rw [e2.out]
            clear hd
            go_enter Tryd.func48, Tryd.ntmps48
            go_wp2_with fail
            refine (hc0 _).mono ?_
            rintro e w' ⟨rfl, rfl⟩
            go_wp2
            go_ret
            exact ⟨rfl, rfl⟩
end Go.Proofs.YtddmdieeljjamaaDoor
/-
  A NUMBER READ: the program's function, by contract.
-/
namespace Go.Proofs.YtddmdieeljjamaaDoor
open Go.ChangeShapes Go.WideShapes Go.ChangeAt Go.RowKit

theorem num_step {s : ByteArray} {neg : Bool} {f i n d : Nat} (h : i < s.size) (hd : isDig (byteAt s i) = true) (e : byteAt s i - 48 = (d : Int)) (hf : s.size ≤ i + f) : ∃ g, s.size ≤ i + 1 + g ∧
    numS s neg f i n = if 10 * n + d ≤ 1000000000000 then numS s neg g (i + 1) (10 * n + d) else .bad 5 := by
  obtain ⟨g, rfl⟩ : ∃ g, f = g + 1 := ⟨f - 1, by omega⟩
  refine ⟨g, by omega, ?_⟩
  rw [numS, if_pos ⟨h, hd⟩, show (byteAt s i).toNat - 48 = d by
    unfold isDig at hd
    simp only [Bool.and_eq_true, decide_eq_true_eq] at hd
    omega]
theorem dig_bounds {b : Int} (h : isDig b = true) : ∃ d : Nat, b - 48 = (d : Int) ∧ d ≤ 9 ∧ 48 ≤ b ∧ b ≤ 57 := by
  unfold isDig at h
  simp only [Bool.and_eq_true, decide_eq_true_eq] at h
  exact ⟨(b - 48).toNat, by omega, by omega, h.1, h.2⟩
set_option maxHeartbeats 3200000 in
theorem readnum_c (s : ByteArray) (neg : Bool) (w : World) (h0 : 0 < s.size) (hs : s.size ≤ 1000) (hneg : (byteAt s 0 == 45) = neg) : Calls Tryd.prog 49 #[.string s] w fun e w' =>
    e = .returned (numS s neg s.size (if neg then 1 else 0) 0).v ∧ Below w.heap.size w w' := by
  have hdig := fun b w => rdig_c b w
  have hb0 := byteAt_eq (s := s) (k := 0) h0
  obtain ⟨R, hR⟩ : ∃ R, Hid (numS s neg s.size (if neg then 1 else 0) 0 = R) := ⟨_, (rfl : _ = _)⟩
  rw [hR.out]
  have hst : Hid ((if neg then (1 : Nat) else 0) ≤ s.size) := by show _ ≤ _; split <;> omega
  have hbel : Hid (∀ O, Below w.heap.size w (w.alloc O)) := fun O => (Below.refl _ _).alloc (Nat.le_refl _) O
  have hnew : Hid (∀ cs : Array Value, (w.alloc (.cells cs 33)).heap[w.heap.size]? = some (.cells cs 33)) := fun cs => heap_alloc_new _ _
  generalize byteAt s 0 = b0 at *
  cases neg with
  | false =>
    simp only [Bool.false_eq_true, if_false] at hR hst
    go_enter Tryd.func49, Tryd.ntmps49
    go_wp2_with fail
    go_loop [5, 6] (fun x i => ∃ (n j f : Nat), n ≤ 1000000000000 ∧ j ≤ s.size ∧ s.size ≤ j + f ∧ x = .int .i64 (n : Int) ∧ i = .int .i64 (j : Int) ∧ Hid (numS s false f j n = R)) (fun _ i => s.size - (intOf i).toNat)
    case atStart => exact ⟨0, _, s.size, by omega, hst.out, by omega, rfl, rfl, hR⟩
    case round =>
      obtain ⟨n, j, f, hn, hj, hf, rfl, rfl, hrel⟩ := hrel
      by_cases hlt : j < s.size
      · have hj1 : (j : Int) < (s.size : Int) := by omega
        have hbj := byteAt_eq (s := s) (k := j) hlt
        have hdj := fun w => hdig (byteAt s j) w
        cases hd : isDig (byteAt s j) with
        | true =>
          rw [hd] at hdj
          obtain ⟨d, hbd, hd9, hlo, hhi⟩ := dig_bounds hd
          obtain ⟨g, hg, hstep⟩ := num_step (neg := false) (n := n) hlt hd hbd hf
          rw [hrel.out] at hstep
          replace hstep := hid0 hstep
          generalize byteAt s j = b at *
          have hw8 : IntKind.u8.wrap (d : Int) = (d : Int) := by rw [IntKind.wrap_u8]; omega
          replace hg := hid0 hg
          clear hd hf hrel
          by_cases hbig : 10 * n + d ≤ 1000000000000
          · have hnext : Hid (numS s false g (j + 1) (10 * n + d) = R) := by have := hstep.out; rw [if_pos hbig] at this; exact this.symm
            have hbg : ¬ (1000000000000 : Int) < 10 * (n : Int) + (d : Int) := by omega
            clear hstep
            go_wp2_with fail
            refine (hdj _).mono ?_
            rintro e w' ⟨rfl, rfl⟩
            go_wp2
            go_round
            case rel => exact ⟨10 * n + d, j + 1, g, hbig, by omega, hg.out, by first | rfl | go_num, by go_num, hnext⟩
            case measure => simp [intOf]; omega
          · have hfin : Hid (R = .bad 5) := by have := hstep.out; rw [if_neg hbig] at this; exact this
            have hbg : (1000000000000 : Int) < 10 * (n : Int) + (d : Int) := by omega
            clear hstep
            go_wp2_with fail
            refine (hdj _).mono ?_
            rintro e w' ⟨rfl, rfl⟩
            go_wp2
            have hRow := run_loadVar_row (P := Tryd.prog) _ w.heap.size 33 33 _ _ _ (hnew.out #[.int .i64 0, .int .i64 0, .string ⟨#[]⟩]) Tryd.underlying33 rfl (by kernel_rfl)
            refine bodyPost_ret (v := .tuple #[.agg #[.int .i64 0, .int .i64 0, .string ⟨#[]⟩], .int .i64 0, .int .i64 5]) ((results_cell_tmp2 rfl _ _ _).trans (by simp [asAddr, hRow, Result.andThen])) rfl ⟨by rw [hfin.out]; rfl, hbel.out _⟩
        | false =>
          rw [hd] at hdj
          have hfin : Hid (R = ⟨1, if false then -(n : Int) else n, [], j, 0⟩) := by show _ = _; rw [← hrel.out]; exact num_end (by rintro ⟨_, h⟩; rw [hd] at h; cases h) f
          generalize byteAt s j = b at *
          clear hrel hd hf
          go_wp2_with fail
          refine (hdj _).mono ?_
          rintro e w' ⟨rfl, rfl⟩
          go_wp2
          have hRow := run_loadVar_row (P := Tryd.prog) _ w.heap.size 33 33 _ _ _ (hnew.out #[.int .i64 1, .int .i64 ((n : Int)), .string ⟨#[]⟩]) Tryd.underlying33 rfl (by kernel_rfl)
          refine bodyPost_ret (v := .tuple #[.agg #[.int .i64 1, .int .i64 ((n : Int)), .string ⟨#[]⟩], .int .i64 (j : Int), .int .i64 0]) ((results_cell_tmp2 rfl _ _ _).trans (by simp [asAddr, hRow, Result.andThen])) rfl ⟨by rw [hfin.out]; rfl, hbel.out _⟩
      · have hj1 : ¬ (j : Int) < (s.size : Int) := by omega
        have hfin : Hid (R = ⟨1, if false then -(n : Int) else n, [], j, 0⟩) := by show _ = _; rw [← hrel.out]; exact num_end (by rintro ⟨h, _⟩; exact hlt h) f
        clear hrel hf
        go_wp2
        have hRow := run_loadVar_row (P := Tryd.prog) _ w.heap.size 33 33 _ _ _ (hnew.out #[.int .i64 1, .int .i64 ((n : Int)), .string ⟨#[]⟩]) Tryd.underlying33 rfl (by kernel_rfl)
        refine bodyPost_ret (v := .tuple #[.agg #[.int .i64 1, .int .i64 ((n : Int)), .string ⟨#[]⟩], .int .i64 (j : Int), .int .i64 0]) ((results_cell_tmp2 rfl _ _ _).trans (by simp [asAddr, hRow, Result.andThen])) rfl ⟨by rw [hfin.out]; rfl, hbel.out _⟩
  | true =>
    simp only [if_true] at hR hst
    go_enter Tryd.func49, Tryd.ntmps49
    go_wp2_with fail
    go_loop [5, 6] (fun x i => ∃ (n j f : Nat), n ≤ 1000000000000 ∧ j ≤ s.size ∧ s.size ≤ j + f ∧ x = .int .i64 (n : Int) ∧ i = .int .i64 (j : Int) ∧ Hid (numS s true f j n = R)) (fun _ i => s.size - (intOf i).toNat)
    case atStart => exact ⟨0, _, s.size, by omega, hst.out, by omega, rfl, rfl, hR⟩
    case round =>
      obtain ⟨n, j, f, hn, hj, hf, rfl, rfl, hrel⟩ := hrel
      by_cases hlt : j < s.size
      · have hj1 : (j : Int) < (s.size : Int) := by omega
        have hbj := byteAt_eq (s := s) (k := j) hlt
        have hdj := fun w => hdig (byteAt s j) w
        cases hd : isDig (byteAt s j) with
        | true =>
          rw [hd] at hdj
          obtain ⟨d, hbd, hd9, hlo, hhi⟩ := dig_bounds hd
          obtain ⟨g, hg, hstep⟩ := num_step (neg := true) (n := n) hlt hd hbd hf
          rw [hrel.out] at hstep
          replace hstep := hid0 hstep
          generalize byteAt s j = b at *
          have hw8 : IntKind.u8.wrap (d : Int) = (d : Int) := by rw [IntKind.wrap_u8]; omega
          replace hg := hid0 hg
          clear hd hf hrel
          by_cases hbig : 10 * n + d ≤ 1000000000000
          · have hnext : Hid (numS s true g (j + 1) (10 * n + d) = R) := by have := hstep.out; rw [if_pos hbig] at this; exact this.symm
            have hbg : ¬ (1000000000000 : Int) < 10 * (n : Int) + (d : Int) := by omega
            clear hstep
            go_wp2_with fail
            refine (hdj _).mono ?_
            rintro e w' ⟨rfl, rfl⟩
            go_wp2
            go_round
            case rel => exact ⟨10 * n + d, j + 1, g, hbig, by omega, hg.out, by first | rfl | go_num, by go_num, hnext⟩
            case measure => simp [intOf]; omega
          · have hfin : Hid (R = .bad 5) := by have := hstep.out; rw [if_neg hbig] at this; exact this
            have hbg : (1000000000000 : Int) < 10 * (n : Int) + (d : Int) := by omega
            clear hstep
            go_wp2_with fail
            refine (hdj _).mono ?_
            rintro e w' ⟨rfl, rfl⟩
            go_wp2
            have hRow := run_loadVar_row (P := Tryd.prog) _ w.heap.size 33 33 _ _ _ (hnew.out #[.int .i64 0, .int .i64 0, .string ⟨#[]⟩]) Tryd.underlying33 rfl (by kernel_rfl)
            refine bodyPost_ret (v := .tuple #[.agg #[.int .i64 0, .int .i64 0, .string ⟨#[]⟩], .int .i64 0, .int .i64 5]) ((results_cell_tmp2 rfl _ _ _).trans (by simp [asAddr, hRow, Result.andThen])) rfl ⟨by rw [hfin.out]; rfl, hbel.out _⟩
        | false =>
          rw [hd] at hdj
          have hfin : Hid (R = ⟨1, if true then -(n : Int) else n, [], j, 0⟩) := by show _ = _; rw [← hrel.out]; exact num_end (by rintro ⟨_, h⟩; rw [hd] at h; cases h) f
          generalize byteAt s j = b at *
          clear hrel hd hf
          go_wp2_with fail
          refine (hdj _).mono ?_
          rintro e w' ⟨rfl, rfl⟩
          go_wp2
          have hRow := run_loadVar_row (P := Tryd.prog) _ w.heap.size 33 33 _ _ _ (hnew.out #[.int .i64 1, .int .i64 (-(n : Int)), .string ⟨#[]⟩]) Tryd.underlying33 rfl (by kernel_rfl)
          refine bodyPost_ret (v := .tuple #[.agg #[.int .i64 1, .int .i64 (-(n : Int)), .string ⟨#[]⟩], .int .i64 (j : Int), .int .i64 0]) ((results_cell_tmp2 rfl _ _ _).trans (by simp [asAddr, hRow, Result.andThen])) rfl ⟨by rw [hfin.out]; rfl, hbel.out _⟩
      · have hj1 : ¬ (j : Int) < (s.size : Int) := by omega
        have hfin : Hid (R = ⟨1, if true then -(n : Int) else n, [], j, 0⟩) := by show _ = _; rw [← hrel.out]; exact num_end (by rintro ⟨h, _⟩; exact hlt h) f
        clear hrel hf
        go_wp2
        have hRow := run_loadVar_row (P := Tryd.prog) _ w.heap.size 33 33 _ _ _ (hnew.out #[.int .i64 1, .int .i64 (-(n : Int)), .string ⟨#[]⟩]) Tryd.underlying33 rfl (by kernel_rfl)
        refine bodyPost_ret (v := .tuple #[.agg #[.int .i64 1, .int .i64 (-(n : Int)), .string ⟨#[]⟩], .int .i64 (j : Int), .int .i64 0]) ((results_cell_tmp2 rfl _ _ _).trans (by simp [asAddr, hRow, Result.andThen])) rfl ⟨by rw [hfin.out]; rfl, hbel.out _⟩
end Go.Proofs.YtddmdieeljjamaaDoor
/-
  A TEXT READ: the program's function, by contract.
-/
namespace Go.Proofs.YtddmdieeljjamaaDoor
open Go.ChangeShapes Go.WideShapes Go.ChangeAt Go.RowKit

def u8v (c : UInt8) : Value := .int .u8 (c.toNat : Int)
theorem infoU8 : (Tryd.prog.info? 5).map (fun i => (i.zero, i.size, i.bytes)) = some (some (.int .u8 0), 1, 1) := by kernel_rfl
theorem pushes : ∀ (acc : List UInt8) (r : ByteArray), (acc.map fun c => (c.toNat : Int)).foldl (fun r n => r.push (UInt8.ofNat n.toNat)) r = ⟨(r.data.toList ++ acc).toArray⟩
  | [], r => by simp
  | c :: acc, r => by
    rw [List.map_cons, List.foldl_cons, pushes acc]
    congr 1
    simp [ByteArray.push]
theorem conv_row (W : World) (base : Nat) (v : Value) (acc : List UInt8) (h : W.ownsRow base 5 1 v acc.length (acc.map u8v)) :
    (convert 52 9 v).run Tryd.prog W = .ok (.string (tx acc)) W := by
  rcases h.2 with ⟨rfl, h0⟩ | ⟨g, cap, cur, rfl, hb, hg, hn, hm, hs, ht⟩
  · obtain rfl : acc = [] := List.eq_nil_of_length_eq_zero h0
    rw [run_convert_bytes_string (P := Tryd.prog) _ 52 9 5 _ _ _ Tryd.underlying52 Tryd.underlying5 Tryd.underlying9]
    rfl
  · rw [run_convert_bytes_string (P := Tryd.prog) _ 52 9 5 _ _ _ Tryd.underlying52 Tryd.underlying5 Tryd.underlying9]
    have hc : ∀ j, j < acc.length → W.cell? ((⟨g, 0, none⟩ : Addr).add j) = some (Value.int .u8 ((acc.getD j 0).toNat : Int)) := fun j hj => by
      have h1 := h.cellAt j (by omega)
      have h2 : (⟨g, 0, none⟩ : Addr).add j = ⟨g, j, none⟩ := by
        by_cases h0 : j = 0
        · subst h0; simp [Addr.add]
        · simp [Addr.add, h0]
      rw [h2, h1]
      simp [u8v, List.getD, hj]
    rw [run_bytesToString (P := Tryd.prog) W ⟨g, 0, none⟩ acc.length cap (acc.map fun c => (c.toNat : Int)) (by
      rw [run_loadCells (P := Tryd.prog) W ⟨g, 0, none⟩ acc.length _ hc]
      congr 1
      apply Array.ext'
      apply List.ext_getElem?
      intro j
      by_cases hj : j < acc.length
      · simp [hj]
      · simp [hj])]
    rw [pushes]
    rfl
theorem heap_setR {x : World} {b : Nat} {cs : Array Value} {t : TypeId} (h : x.heap[b]? = some (.cells cs t)) (j : Nat) (v : Value) : (x.setCell ⟨b, j, none⟩ v).heap[b]? = some (.cells (cs.setIfInBounds j v) t) := by
  simp [World.setCell, Array.getElem?_modify, h]
theorem heap_set3 {x : World} {b : Nat} {a0 a1 a2 : Value} {t : TypeId} (h : x.heap[b]? = some (.cells #[a0, a1, a2] t)) (c0 c1 c2 : Value) :
    (((x.setCell ⟨b, 0, none⟩ c0).setCell ⟨b, 1, none⟩ c1).setCell ⟨b, 2, none⟩ c2).heap[b]? = some (.cells #[c0, c1, c2] t) := by
  have h1 := heap_setR h 0 c0
  have h2 := heap_setR h1 1 c1
  have h3 := heap_setR h2 2 c2
  simpa using h3
theorem box_facts {x : World} {b : Nat} {c0 c1 c2 : Value} {t : TypeId} (h : x.heap[b]? = some (.cells #[c0, c1, c2] t)) :
    (x.cell? ⟨b, 0, none⟩ = some c0 ∧ x.cell? ⟨b, 1, none⟩ = some c1 ∧ x.cell? ⟨b, 2, none⟩ = some c2) ∧ x.frozen? ⟨b, 0, none⟩ = false ∧ x.frozen? ⟨b, 1, none⟩ = false ∧ x.frozen? ⟨b, 2, none⟩ = false := by
  refine ⟨⟨?_, ?_, ?_⟩, ?_, ?_, ?_⟩ <;> simp [World.cell?, World.frozen?, h]
theorem own_slice {w : World} {base : Nat} {e : TypeId} {v : Value} {n : Nat} {xs : List Value} (h : w.ownsRow base e 1 v n xs) : ∃ a c, v = .slice a n c := by
  obtain ⟨a, c, h1, _⟩ := holds_of_owns h
  have h2 := h.1
  rw [Nat.mul_one] at h2
  exact ⟨a, c, by rw [h1, h2]⟩
/-- One step of a text. -/
theorem text_step {s : ByteArray} {f i : Nat} {out : List UInt8} (h : i < s.size) (hf : s.size ≤ i + f) : ∃ g, s.size ≤ i + 1 + g ∧
    textS s f i out = (if byteAt s i = 39 then ⟨2, 0, out, i + 1, 0⟩
      else if byteAt s i = 92 then
        if i + 1 < s.size then
          if isSp (byteAt s (i + 1)) then (if out.length = 100 then .bad 5 else textS s g (i + 2) (out ++ [ubyte s (i + 1)]))
          else .bad 2
        else .bad 7
      else if plainB (byteAt s i) then (if out.length = 100 then .bad 5 else textS s g (i + 1) (out ++ [ubyte s i]))
      else .bad 2) := by
  obtain ⟨g, rfl⟩ : ∃ g, f = g + 1 := ⟨f - 1, by omega⟩
  exact ⟨g, by omega, by rw [textS, if_pos h]⟩

set_option maxHeartbeats 6400000 in
theorem readtext_c (s : ByteArray) (w : World) (hs : s.size ≤ 1000) : Calls Tryd.prog 50 #[.string s] w fun e w' =>
    e = .returned (textS s s.size 1 []).v ∧ Below w.heap.size w w' := by
  have hspc := fun b w => special_c b w
  have hpln := fun b w => plain_c b w
  obtain ⟨i0, hi, hz0, hz1, hz2⟩ := info_parts infoU8
  obtain ⟨R, hR⟩ : ∃ R, Hid (textS s s.size 1 [] = R) := ⟨_, (rfl : _ = _)⟩
  rw [hR.out]
  have hA0 : Hid ((w.alloc (.cells #[.int .i64 0, .int .i64 0, .string ⟨#[]⟩] 33)).heap[w.heap.size]? = some (.cells #[.int .i64 0, .int .i64 0, .string ⟨#[]⟩] 33)) := heap_alloc_new _ _
  have hB0 : Hid (Below w.heap.size w (w.alloc (.cells #[.int .i64 0, .int .i64 0, .string ⟨#[]⟩] 33))) := (Below.refl _ _).alloc (Nat.le_refl _) _
  have hs0 : Hid (w.heap.size + 1 ≤ (w.alloc (.cells #[.int .i64 0, .int .i64 0, .string ⟨#[]⟩] 33)).heap.size) := by show _ ≤ (w.heap.push _).size; simp
  go_enter Tryd.func50, Tryd.ntmps50
  go_wp2_with fail
  go_loopw [5, 6] (fun x i wr => ∃ (out : List UInt8) (j f : Nat) (a : Option Addr) (c : Nat), x = .slice a out.length c ∧ i = .int .i64 (j : Int) ∧ out.length ≤ 100 ∧ j ≤ 1000 ∧ s.size ≤ j + f ∧ Hid (wr.ownsRow (w.heap.size + 1) 5 1 (.slice a out.length c) out.length (out.map u8v)) ∧ Hid (textS s f j out = R) ∧
      Hid (wr.heap[w.heap.size]? = some (.cells #[.int .i64 0, .int .i64 0, .string ⟨#[]⟩] 33)) ∧ Hid (w.heap.size + 1 ≤ wr.heap.size) ∧ Hid (Below w.heap.size w wr)) (fun _ i _ => s.size + 1 - (intOf i).toNat)
  case atStart => exact ⟨[], 1, s.size, none, 0, rfl, rfl, by simp, by omega, by omega, World.ownsRow_nil _ _ _ _, hR, hA0, hs0, hB0⟩
  case round =>
    clear hA0 hB0 hs0 hR
    obtain ⟨out, j, f, a, c, rfl, rfl, ho, hj9, hf, hown, hrel, hA, hsz, hB⟩ := hrel
    by_cases hlt : j < s.size
    · have hj1 : (j : Int) < (s.size : Int) := by omega
      have hbj := byteAt_eq (s := s) (k := j) hlt
      obtain ⟨g, hg, hstep⟩ := text_step (out := out) hlt hf
      rw [hrel.out] at hstep
      replace hstep := hid0 hstep
      replace hg := hid0 hg
      have hbu : Hid (byteAt s j = ((ubyte s j).toNat : Int)) := byteAt_u s j
      have hpj := fun w => hpln (byteAt s j) w
      generalize byteAt s j = b at *
      clear hf hrel
      by_cases h39 : b = 39
      · have hq : (b == 39) = true := by simp [h39]
        have hfin : Hid (R = ⟨2, 0, out, j + 1, 0⟩) := by have := hstep.out; rw [if_pos h39] at this; exact this
        have hcv := conv_row wr (w.heap.size + 1) _ out hown.out
        obtain ⟨⟨g0, g1, g2⟩, r0, r1, r2⟩ := box_facts hA.out
        clear hstep hbu hpj hown
        replace h39 := hid0 h39
        go_wp2
        have hRow := run_loadVar_row (P := Tryd.prog) _ w.heap.size 33 33 _ _ _ (heap_set3 hA.out (.int .i64 2) (.int .i64 0) (.string (tx out))) Tryd.underlying33 rfl (by kernel_rfl)
        refine bodyPost_ret (v := .tuple #[.agg #[.int .i64 2, .int .i64 0, .string (tx out)], .int .i64 ((j : Int) + 1), .int .i64 0]) ((results_cell_tmp2 rfl _ _ _).trans (by simp [asAddr, hRow, Result.andThen])) rfl ⟨by rw [hfin.out]; rfl, ((hB.out.setCell (Nat.le_refl _) _).setCell (Nat.le_refl _) _).setCell (Nat.le_refl _) _⟩
      · have hq : (b == 39) = false := by simp [h39]
        by_cases h92 : b = 92
        · have hq2 : (b == 92) = true := by simp [h92]
          have hstep1 : Hid (R = if j + 1 < s.size then (if isSp (byteAt s (j + 1)) then (if out.length = 100 then .bad 5 else textS s g (j + 2) (out ++ [ubyte s (j + 1)])) else .bad 2) else .bad 7) := by
            have := hstep.out; rw [if_neg h39, if_pos h92] at this; exact this
          replace h39 := hid0 h39
          replace h92 := hid0 h92
          clear hstep hbu hpj
          by_cases hl2 : j + 1 < s.size
          · have hj2 : ((j : Int) + 1 == (s.size : Int)) = false := by simp; omega
            have hj3 : (j : Int) + 1 < (s.size : Int) := by omega
            have hbj2 := byteAt_eq (s := s) (k := j + 1) hl2
            have hbu : Hid (byteAt s (j + 1) = ((ubyte s (j + 1)).toNat : Int)) := byteAt_u s (j + 1)
            have hsp := fun w => hspc (byteAt s (j + 1)) w
            have hidx : IntKind.i64.wrap ((j : Int) + 1) = (j : Int) + 1 := IntWalk.i64_in _ (by omega)
            have htn : ((j : Int) + 1).toNat = j + 1 := by omega
            have hstep2 : Hid (R = if isSp (byteAt s (j + 1)) then (if out.length = 100 then .bad 5 else textS s g (j + 2) (out ++ [ubyte s (j + 1)])) else .bad 2) := by
              have := hstep1.out; rw [if_pos hl2] at this; exact this
            generalize byteAt s (j + 1) = b2 at *
            clear hstep1
            cases hd : isSp b2 with
            | false =>
              rw [hd] at hsp
              have hfin : Hid (R = .bad 2) := by have := hstep2.out; rw [hd] at this; exact this
              obtain ⟨⟨g0, g1, g2⟩, r0, r1, r2⟩ := box_facts hA.out
              clear hstep2 hd hbu hown
              go_wp2_with fail
              refine (hsp _).mono ?_
              rintro e wr ⟨rfl, rfl⟩
              go_wp2
              have hRow := run_loadVar_row (P := Tryd.prog) _ w.heap.size 33 33 _ _ _ (heap_set3 hA.out (.int .i64 0) (.int .i64 0) (.string ⟨#[]⟩)) Tryd.underlying33 rfl (by kernel_rfl)
              refine bodyPost_ret (v := .tuple #[.agg #[.int .i64 0, .int .i64 0, .string ⟨#[]⟩], .int .i64 0, .int .i64 2]) ((results_cell_tmp2 rfl _ _ _).trans (by simp [asAddr, hRow, Result.andThen])) rfl ⟨by rw [hfin.out]; rfl, ((hB.out.setCell (Nat.le_refl _) _).setCell (Nat.le_refl _) _).setCell (Nat.le_refl _) _⟩
            | true =>
              rw [hd] at hsp
              have hstep3 : Hid (R = if out.length = 100 then .bad 5 else textS s g (j + 2) (out ++ [ubyte s (j + 1)])) := by have := hstep2.out; rw [hd] at this; exact this
              clear hstep2 hd
              by_cases h100 : out.length = 100
              · have hl100 : ((out.length : Int) == 100) = true := by simp [h100]
                have hfin : Hid (R = .bad 5) := by have := hstep3.out; rw [if_pos h100] at this; exact this
                obtain ⟨⟨g0, g1, g2⟩, r0, r1, r2⟩ := box_facts hA.out
                replace h100 := hid0 h100
                clear hstep3 hbu hown
                go_wp2_with fail
                refine (hsp _).mono ?_
                rintro e wr ⟨rfl, rfl⟩
                go_wp2
                have hRow := run_loadVar_row (P := Tryd.prog) _ w.heap.size 33 33 _ _ _ (heap_set3 hA.out (.int .i64 0) (.int .i64 0) (.string ⟨#[]⟩)) Tryd.underlying33 rfl (by kernel_rfl)
                refine bodyPost_ret (v := .tuple #[.agg #[.int .i64 0, .int .i64 0, .string ⟨#[]⟩], .int .i64 0, .int .i64 5]) ((results_cell_tmp2 rfl _ _ _).trans (by simp [asAddr, hRow, Result.andThen])) rfl ⟨by rw [hfin.out]; rfl, ((hB.out.setCell (Nat.le_refl _) _).setCell (Nat.le_refl _) _).setCell (Nat.le_refl _) _⟩
              · have hl100 : ((out.length : Int) == 100) = false := by simp; omega
                have hnext : Hid (textS s g (j + 2) (out ++ [ubyte s (j + 1)]) = R) := by have := hstep3.out; rw [if_neg h100] at this; exact this.symm
                have hnf : Hid (s.size ≤ j + 2 + g) := by have := hg.out; show _ ≤ _; omega
                clear hstep3
                go_wp2_with fail
                refine (hsp _).mono ?_
                rintro e wr ⟨rfl, rfl⟩
                clear hsp
                have hown3 := hown.out
                have hszw := hsz.out
                have hfl : Hid (out.length < 100) := by show _ < _; omega
                generalize hL : out.length = L at *
                replace hL := hid0 hL
                have hL9 : L ≤ 100 := ho
                go_wp2_with (at_builtin; refine wpList_append_own _ rfl _ _ 52 rfl (w.heap.size + 1) 5 i0 (.int .u8 0) 1 1 Tryd.underlying52 hi hz0 hz1 hz2 rfl (by decide) _ _ _ rfl (hown3.alloc _) ⟨wr.heap.size, 0, none⟩ 1 1 [.int .u8 b2] rfl rfl (cell_one_new _ _ _) ?c2 ?c3 ?c4 ?c5 ?_)
                case c2 => intro u hu; simp at hu; subst hu; rfl
                case c3 => unfold maxLen; omega
                case c4 => omega
                case c5 => simp; omega
                intro v' w3 hown' hgrow _
                have hB3 : Hid (Below w.heap.size w w3) := (hB.out.alloc (by omega) _).grown hgrow (by simp; omega) (fun k hk => by have := (hown3.lt k hk).1; omega)
                obtain ⟨a', c', e'⟩ := own_slice hown'
                subst e'
                have hnx : Hid (w3.ownsRow (w.heap.size + 1) 5 1 (.slice a' (L + 1) c') (out ++ [ubyte s (j + 1)]).length ((out ++ [ubyte s (j + 1)]).map u8v)) := by
                  show World.ownsRow _ _ _ _ _ _ _
                  have e1 : (out ++ [ubyte s (j + 1)]).length = L + 1 := by rw [List.length_append, hL.out]; rfl
                  have e2 : (out ++ [ubyte s (j + 1)]).map u8v = out.map u8v ++ [.int .u8 b2] := by rw [List.map_append, hbu.out]; rfl
                  rw [e1, e2]; exact hown'
                have hA3 : Hid (w3.heap[w.heap.size]? = some (.cells #[.int .i64 0, .int .i64 0, .string ⟨#[]⟩] 33)) := by
                  refine (hgrow.block _ (by simp; omega) (fun e => ?_)).trans ((heap_alloc_old _ _ (by omega)).trans hA.out)
                  have := (hown3.lt _ e.symm).1
                  omega
                have hs3 : Hid (w.heap.size + 1 ≤ w3.heap.size) := by have := hgrow.size; simp at this; show _ ≤ _; omega
                clear hown3 hown' hgrow hszw hown hA hsz hB hbu
                go_wp2
                go_roundw
                case rel => exact ⟨out ++ [ubyte s (j + 1)], j + 2, g, a', c', by rw [List.length_append, hL.out]; rfl, by first | rfl | go_num, by rw [List.length_append, hL.out]; have := hfl.out; simp; omega, by omega, hnf.out, (by show World.ownsRow _ _ _ _ _ _ _; have := hnx.out; rw [List.length_append, hL.out] at this ⊢; exact this), hnext, hA3, hs3, hB3⟩
                case measure => simp [intOf]; omega
          · have hl3 : Hid (j + 1 = s.size) := by show _ = _; omega
            have hj2 : ((j : Int) + 1 == (s.size : Int)) = true := by have := hl3.out; simp; omega
            have hfin : Hid (R = .bad 7) := by have := hstep1.out; rw [if_neg hl2] at this; exact this
            have hidx : IntKind.i64.wrap ((j : Int) + 1) = (j : Int) + 1 := IntWalk.i64_in _ (by omega)
            obtain ⟨⟨g0, g1, g2⟩, r0, r1, r2⟩ := box_facts hA.out
            clear hstep1 hl2 hown
            go_wp2
            have hRow := run_loadVar_row (P := Tryd.prog) _ w.heap.size 33 33 _ _ _ (heap_set3 hA.out (.int .i64 0) (.int .i64 0) (.string ⟨#[]⟩)) Tryd.underlying33 rfl (by kernel_rfl)
            refine bodyPost_ret (v := .tuple #[.agg #[.int .i64 0, .int .i64 0, .string ⟨#[]⟩], .int .i64 0, .int .i64 7]) ((results_cell_tmp2 rfl _ _ _).trans (by simp [asAddr, hRow, Result.andThen])) rfl ⟨by rw [hfin.out]; rfl, ((hB.out.setCell (Nat.le_refl _) _).setCell (Nat.le_refl _) _).setCell (Nat.le_refl _) _⟩
        · have hq2 : (b == 92) = false := by simp [h92]
          have hstep1 : Hid (R = if plainB b then (if out.length = 100 then .bad 5 else textS s g (j + 1) (out ++ [ubyte s j])) else .bad 2) := by
            have := hstep.out; rw [if_neg h39, if_neg h92] at this; exact this
          replace h39 := hid0 h39
          replace h92 := hid0 h92
          clear hstep
          cases hd : plainB b with
          | false =>
            rw [hd] at hpj
            have hfin : Hid (R = .bad 2) := by have := hstep1.out; rw [hd] at this; exact this
            obtain ⟨⟨g0, g1, g2⟩, r0, r1, r2⟩ := box_facts hA.out
            clear hstep1 hd hbu hown
            go_wp2_with fail
            refine (hpj _).mono ?_
            rintro e wr ⟨rfl, rfl⟩
            go_wp2
            have hRow := run_loadVar_row (P := Tryd.prog) _ w.heap.size 33 33 _ _ _ (heap_set3 hA.out (.int .i64 0) (.int .i64 0) (.string ⟨#[]⟩)) Tryd.underlying33 rfl (by kernel_rfl)
            refine bodyPost_ret (v := .tuple #[.agg #[.int .i64 0, .int .i64 0, .string ⟨#[]⟩], .int .i64 0, .int .i64 2]) ((results_cell_tmp2 rfl _ _ _).trans (by simp [asAddr, hRow, Result.andThen])) rfl ⟨by rw [hfin.out]; rfl, ((hB.out.setCell (Nat.le_refl _) _).setCell (Nat.le_refl _) _).setCell (Nat.le_refl _) _⟩
          | true =>
            rw [hd] at hpj
            have hstep3 : Hid (R = if out.length = 100 then .bad 5 else textS s g (j + 1) (out ++ [ubyte s j])) := by have := hstep1.out; rw [hd] at this; exact this
            clear hstep1 hd
            by_cases h100 : out.length = 100
            · have hl100 : ((out.length : Int) == 100) = true := by simp [h100]
              have hfin : Hid (R = .bad 5) := by have := hstep3.out; rw [if_pos h100] at this; exact this
              obtain ⟨⟨g0, g1, g2⟩, r0, r1, r2⟩ := box_facts hA.out
              replace h100 := hid0 h100
              clear hstep3 hbu hown
              go_wp2_with fail
              refine (hpj _).mono ?_
              rintro e wr ⟨rfl, rfl⟩
              go_wp2
              have hRow := run_loadVar_row (P := Tryd.prog) _ w.heap.size 33 33 _ _ _ (heap_set3 hA.out (.int .i64 0) (.int .i64 0) (.string ⟨#[]⟩)) Tryd.underlying33 rfl (by kernel_rfl)
              refine bodyPost_ret (v := .tuple #[.agg #[.int .i64 0, .int .i64 0, .string ⟨#[]⟩], .int .i64 0, .int .i64 5]) ((results_cell_tmp2 rfl _ _ _).trans (by simp [asAddr, hRow, Result.andThen])) rfl ⟨by rw [hfin.out]; rfl, ((hB.out.setCell (Nat.le_refl _) _).setCell (Nat.le_refl _) _).setCell (Nat.le_refl _) _⟩
            · have hl100 : ((out.length : Int) == 100) = false := by simp; omega
              have hnext : Hid (textS s g (j + 1) (out ++ [ubyte s j]) = R) := by have := hstep3.out; rw [if_neg h100] at this; exact this.symm
              have hnf : Hid (s.size ≤ j + 1 + g) := by have := hg.out; show _ ≤ _; omega
              clear hstep3
              go_wp2_with fail
              refine (hpj _).mono ?_
              rintro e wr ⟨rfl, rfl⟩
              clear hpj
              have hown3 := hown.out
              have hszw := hsz.out
              have hfl : Hid (out.length < 100) := by show _ < _; omega
              generalize hL : out.length = L at *
              replace hL := hid0 hL
              have hL9 : L ≤ 100 := ho
              go_wp2_with (at_builtin; refine wpList_append_own _ rfl _ _ 52 rfl (w.heap.size + 1) 5 i0 (.int .u8 0) 1 1 Tryd.underlying52 hi hz0 hz1 hz2 rfl (by decide) _ _ _ rfl (hown3.alloc _) ⟨wr.heap.size, 0, none⟩ 1 1 [.int .u8 b] rfl rfl (cell_one_new _ _ _) ?c2 ?c3 ?c4 ?c5 ?_)
              case c2 => intro u hu; simp at hu; subst hu; rfl
              case c3 => unfold maxLen; omega
              case c4 => omega
              case c5 => simp; omega
              intro v' w3 hown' hgrow _
              have hB3 : Hid (Below w.heap.size w w3) := (hB.out.alloc (by omega) _).grown hgrow (by simp; omega) (fun k hk => by have := (hown3.lt k hk).1; omega)
              obtain ⟨a', c', e'⟩ := own_slice hown'
              subst e'
              have hnx : Hid (w3.ownsRow (w.heap.size + 1) 5 1 (.slice a' (L + 1) c') (out ++ [ubyte s (j)]).length ((out ++ [ubyte s (j)]).map u8v)) := by
                show World.ownsRow _ _ _ _ _ _ _
                have e1 : (out ++ [ubyte s (j)]).length = L + 1 := by rw [List.length_append, hL.out]; rfl
                have e2 : (out ++ [ubyte s (j)]).map u8v = out.map u8v ++ [.int .u8 b] := by rw [List.map_append, hbu.out]; rfl
                rw [e1, e2]; exact hown'
              have hA3 : Hid (w3.heap[w.heap.size]? = some (.cells #[.int .i64 0, .int .i64 0, .string ⟨#[]⟩] 33)) := by
                refine (hgrow.block _ (by simp; omega) (fun e => ?_)).trans ((heap_alloc_old _ _ (by omega)).trans hA.out)
                have := (hown3.lt _ e.symm).1
                omega
              have hs3 : Hid (w.heap.size + 1 ≤ w3.heap.size) := by have := hgrow.size; simp at this; show _ ≤ _; omega
              clear hown3 hown' hgrow hszw hown hA hsz hB hbu
              go_wp2
              go_roundw
              case rel => exact ⟨out ++ [ubyte s (j)], j + 1, g, a', c', by rw [List.length_append, hL.out]; rfl, by first | rfl | go_num, by rw [List.length_append, hL.out]; have := hfl.out; simp; omega, by omega, hnf.out, (by show World.ownsRow _ _ _ _ _ _ _; have := hnx.out; rw [List.length_append, hL.out] at this ⊢; exact this), hnext, hA3, hs3, hB3⟩
              case measure => simp [intOf]; omega
    · have hj1 : ¬ (j : Int) < (s.size : Int) := by omega
      have hfin : Hid (R = .bad 7) := by show _ = _; rw [← hrel.out]; exact text_end hlt f out
      obtain ⟨⟨g0, g1, g2⟩, r0, r1, r2⟩ := box_facts hA.out
      clear hrel hown
      go_wp2
      have hRow := run_loadVar_row (P := Tryd.prog) _ w.heap.size 33 33 _ _ _ (heap_set3 hA.out (.int .i64 0) (.int .i64 0) (.string ⟨#[]⟩)) Tryd.underlying33 rfl (by kernel_rfl)
      refine bodyPost_ret (v := .tuple #[.agg #[.int .i64 0, .int .i64 0, .string ⟨#[]⟩], .int .i64 0, .int .i64 7]) ((results_cell_tmp2 rfl _ _ _).trans (by simp [asAddr, hRow, Result.andThen])) rfl ⟨by rw [hfin.out]; rfl, ((hB.out.setCell (Nat.le_refl _) _).setCell (Nat.le_refl _) _).setCell (Nat.le_refl _) _⟩
end Go.Proofs.YtddmdieeljjamaaDoor
/-
  A VALUE READ: the program's function, by contract.
-/
namespace Go.Proofs.YtddmdieeljjamaaDoor
open Go.ChangeShapes Go.WideShapes Go.ChangeAt Go.RowKit

/-- How it begins decides what is read. -/
theorem read_start (s : ByteArray) : (startS s = 3 ∧ readS s = .bad 7) ∨ (startS s = 2 ∧ readS s = textS s s.size 1 []) ∨ (startS s = 1 ∧ 0 < s.size ∧ ∃ neg, (byteAt s 0 == 45) = neg ∧ readS s = numS s neg s.size (if neg then 1 else 0) 0) ∨ (startS s = 0 ∧ readS s = .bad 2) := by
  unfold startS readS
  by_cases h0 : s.size = 0 ∨ (s.size = 1 ∧ byteAt s 0 = 45)
  · rw [if_pos h0, if_pos h0]; exact .inl ⟨rfl, rfl⟩
  · rw [if_neg h0, if_neg h0]
    have hs : 0 < s.size := by
      rcases Nat.eq_zero_or_pos s.size with h | h
      · exact absurd (.inl h) h0
      · exact h
    by_cases h1 : byteAt s 0 = 39
    · rw [if_pos h1, if_pos h1]; exact .inr (.inl ⟨rfl, rfl⟩)
    · rw [if_neg h1, if_neg h1]
      by_cases h2 : byteAt s 0 = 45
      · rw [if_pos h2, if_pos h2]
        cases isDig (byteAt s 1) with
        | true => exact .inr (.inr (.inl ⟨rfl, hs, true, by simp [h2], rfl⟩))
        | false => exact .inr (.inr (.inr ⟨rfl, rfl⟩))
      · rw [if_neg h2, if_neg h2]
        cases isDig (byteAt s 0) with
        | true => exact .inr (.inr (.inl ⟨rfl, hs, false, by simp [h2], rfl⟩))
        | false => exact .inr (.inr (.inr ⟨rfl, rfl⟩))
set_option maxHeartbeats 3200000 in
theorem read_c (s : ByteArray) (w : World) (hs : s.size ≤ 1000) : Calls Tryd.prog 36 #[.string s] w fun e w' =>
    e = .returned (readS s).v ∧ Below w.heap.size w w' := by
  have hst := fun w => start_c s w hs
  have hA0 : Hid ((w.alloc (.cells #[.int .i64 0, .int .i64 0, .string ⟨#[]⟩] 33)).heap[w.heap.size]? = some (.cells #[.int .i64 0, .int .i64 0, .string ⟨#[]⟩] 33)) := heap_alloc_new _ _
  have hB0 : Hid (Below w.heap.size w (w.alloc (.cells #[.int .i64 0, .int .i64 0, .string ⟨#[]⟩] 33))) := (Below.refl _ _).alloc (Nat.le_refl _) _
  have hs0 : Hid ((w.alloc (.cells #[.int .i64 0, .int .i64 0, .string ⟨#[]⟩] 33)).heap.size = w.heap.size + 1) := by show (w.heap.push _).size = _; simp
  rcases read_start s with ⟨e1, e2⟩ | ⟨e1, e2⟩ | ⟨e1, hpos, neg, hneg, e2⟩ | ⟨e1, e2⟩ <;> rw [e1] at hst <;> rw [e2] <;> clear e1 e2

  · go_enter Tryd.func36, Tryd.ntmps36
    go_wp2_with fail
    refine (hst _).mono ?_
    rintro e w' ⟨rfl, rfl⟩
    clear hst
    go_wp2
    have hRow := run_loadVar_row (P := Tryd.prog) _ w.heap.size 33 33 _ _ _ hA0.out Tryd.underlying33 rfl (by kernel_rfl)
    refine bodyPost_ret (v := .tuple #[.agg #[.int .i64 0, .int .i64 0, .string ⟨#[]⟩], .int .i64 0, .int .i64 7]) ((results_cell_tmp2 rfl _ _ _).trans (by simp [asAddr, hRow, Result.andThen])) rfl ⟨rfl, hB0.out⟩
  · have hcall := fun w => readtext_c s w hs
    generalize textS s s.size 1 [] = x at *
    obtain ⟨k, n, t, m, er⟩ := x
    simp only [RR.v] at hcall ⊢
    generalize tx t = tt at *
    go_enter Tryd.func36, Tryd.ntmps36
    go_wp2_with fail
    refine (hst _).mono ?_
    rintro e w' ⟨rfl, rfl⟩
    clear hst
    go_wp2_with fail
    refine (hcall _).mono ?_
    rintro e w1 ⟨rfl, hB⟩
    have hA : Hid (w1.heap[w.heap.size]? = some (.cells #[.int .i64 0, .int .i64 0, .string ⟨#[]⟩] 33)) := (hB.block _ (by rw [hs0.out]; omega)).trans hA0.out
    replace hB : Hid (Below w.heap.size w w1) := hB0.out.trans (hB.mono (by rw [hs0.out]; omega))
    obtain ⟨⟨g0, g1, g2⟩, r0, r1, r2⟩ := box_facts hA.out
    clear hcall hA0 hB0 hs0
    go_wp2
    have hRow := run_loadVar_row (P := Tryd.prog) _ w.heap.size 33 33 _ _ _ (heap_set3 hA.out (.int .i64 k) (.int .i64 n) (.string tt)) Tryd.underlying33 rfl (by kernel_rfl)
    refine bodyPost_ret (v := .tuple #[.agg #[.int .i64 k, .int .i64 n, .string tt], .int .i64 (m : Int), .int .i64 er]) ((results_cell_tmp2 rfl _ _ _).trans (by simp [asAddr, hRow, Result.andThen])) rfl ⟨rfl, ((hB.out.setCell (Nat.le_refl _) _).setCell (Nat.le_refl _) _).setCell (Nat.le_refl _) _⟩
  · have hcall := fun w => readnum_c s neg w hpos hs hneg
    generalize numS s neg s.size (if neg then 1 else 0) 0 = x at *
    obtain ⟨k, n, t, m, er⟩ := x
    simp only [RR.v] at hcall ⊢
    generalize tx t = tt at *
    go_enter Tryd.func36, Tryd.ntmps36
    go_wp2_with fail
    refine (hst _).mono ?_
    rintro e w' ⟨rfl, rfl⟩
    clear hst
    go_wp2_with fail
    refine (hcall _).mono ?_
    rintro e w1 ⟨rfl, hB⟩
    have hA : Hid (w1.heap[w.heap.size]? = some (.cells #[.int .i64 0, .int .i64 0, .string ⟨#[]⟩] 33)) := (hB.block _ (by rw [hs0.out]; omega)).trans hA0.out
    replace hB : Hid (Below w.heap.size w w1) := hB0.out.trans (hB.mono (by rw [hs0.out]; omega))
    obtain ⟨⟨g0, g1, g2⟩, r0, r1, r2⟩ := box_facts hA.out
    clear hcall hA0 hB0 hs0
    go_wp2
    have hRow := run_loadVar_row (P := Tryd.prog) _ w.heap.size 33 33 _ _ _ (heap_set3 hA.out (.int .i64 k) (.int .i64 n) (.string tt)) Tryd.underlying33 rfl (by kernel_rfl)
    refine bodyPost_ret (v := .tuple #[.agg #[.int .i64 k, .int .i64 n, .string tt], .int .i64 (m : Int), .int .i64 er]) ((results_cell_tmp2 rfl _ _ _).trans (by simp [asAddr, hRow, Result.andThen])) rfl ⟨rfl, ((hB.out.setCell (Nat.le_refl _) _).setCell (Nat.le_refl _) _).setCell (Nat.le_refl _) _⟩
  · go_enter Tryd.func36, Tryd.ntmps36
    go_wp2_with fail
    refine (hst _).mono ?_
    rintro e w' ⟨rfl, rfl⟩
    clear hst
    go_wp2
    have hRow := run_loadVar_row (P := Tryd.prog) _ w.heap.size 33 33 _ _ _ hA0.out Tryd.underlying33 rfl (by kernel_rfl)
    refine bodyPost_ret (v := .tuple #[.agg #[.int .i64 0, .int .i64 0, .string ⟨#[]⟩], .int .i64 0, .int .i64 2]) ((results_cell_tmp2 rfl _ _ _).trans (by simp [asAddr, hRow, Result.andThen])) rfl ⟨rfl, hB0.out⟩
end Go.Proofs.YtddmdieeljjamaaDoor
