/-
  A VALUE READ: how it begins, and numbers: the program's functions, by contract.
-/
import Derived.Test.YtlpglldfchfaaabDoorReadMath
import Derived.Laws.Rows
import Derived.Laws.ResultCell
namespace Go.Proofs.YtlpglldfchfaaabDoor
open Go.ChangeShapes Go.WideShapes Go.ChangeAt Go.RowKit

theorem hid0 {p : Prop} (h : p) : Hid p := h
theorem results_cell_tmp2 {fn : Func} {p u v : Tmp} {ty : TypeId} (h : fn.results = #[.cell p ty, .tmp u, .tmp v]) (tmps : Array Value) (P : Program) (w : World) :
    (results fn tmps).run P w =
      ((asAddr (tmps.getD p undef)).run P w).andThen fun a w₁ => ((loadVar ty a).run P w₁).andThen fun x w₂ => .ok (.tuple #[x, tmps.getD u undef, tmps.getD v undef]) w₂ := by
  simp only [results, h]
  simp [Sem.run_bind, Result.andThen]
theorem rdig_c (b : Int) (w : World) : Calls Tryd.prog 23 #[.int .u8 b] w fun e w' => e = .returned (.bool (isDig b)) ∧ w' = w := by
  by_cases h1 : 48 ≤ b <;> by_cases h2 : b ≤ 57 <;> first | (exfalso; omega) | skip
  all_goals
    go_enter Tryd.func23, Tryd.ntmps23
    go_wp2
    go_ret
    exact ⟨ret_bool (by unfold isDig; simp [h1, h2]), rfl⟩
theorem special_c (b : Int) (w : World) : Calls Tryd.prog 14 #[.int .u8 b] w fun e w' => e = .returned (.bool (isSp b)) ∧ w' = w := by
  by_cases h1 : b = 39
  · have h3 : (b == 39) = true := by simp [h1]
    have e : Hid (isSp b = true) := by show _ = _; simp [isSp, h1]
    rw [e.out]
    clear h1
    go_enter Tryd.func14, Tryd.ntmps14
    go_wp2
    go_ret
    exact ⟨rfl, rfl⟩
  · have h3 : (b == 39) = false := by simp [h1]
    have e : Hid (isSp b = (b == 92)) := by
      show _ = _
      rw [Bool.eq_iff_iff]; simp [isSp, h1]
    rw [e.out]
    clear h1
    go_enter Tryd.func14, Tryd.ntmps14
    go_wp2
    go_ret
    exact ⟨rfl, rfl⟩
/-- With what a text begins. -/
def startS (s : ByteArray) : Int :=
  if s.size = 0 ∨ (s.size = 1 ∧ byteAt s 0 = 45) then 3
  else if byteAt s 0 = 39 then 2
  else if byteAt s 0 = 45 then (if isDig (byteAt s 1) then 1 else 0)
  else if isDig (byteAt s 0) then 1 else 0
theorem toList_size (s : ByteArray) : s.toList.length = s.size := by rw [Go.ByteArray.toList_eq]; rfl
theorem list_one (s : ByteArray) : (s.toList == ([45] : List UInt8)) = (decide (s.size = 1) && decide (byteAt s 0 = 45)) := by
  have hl := toList_size s
  have hb : byteAt s 0 = ((s.toList.getD 0 0).toNat : Int) := by rw [Go.ByteArray.toList_eq]; rfl
  rw [hb, ← hl]
  match s.toList with
  | [] => rfl
  | [x] =>
    simp only [List.length_singleton, decide_true, Bool.true_and, List.getD_cons_zero]
    rw [Bool.eq_iff_iff]
    simp only [beq_iff_eq, List.cons.injEq, and_true, decide_eq_true_eq]
    constructor
    · rintro rfl; rfl
    · intro h
      apply UInt8.toNat_inj.1
      have : (45 : UInt8).toNat = 45 := rfl
      omega
  | x :: y :: t =>
    rw [Bool.eq_iff_iff]; simp
theorem list_none (s : ByteArray) (h : s.size ≠ 0) : (s.toList == ([] : List UInt8)) = false := by
  have hl := toList_size s
  match hs : s.toList with
  | [] => rw [hs] at hl; simp at hl; omega
  | _ :: _ => rfl
set_option maxHeartbeats 1600000 in
theorem start_c (s : ByteArray) (w : World) (hs : s.size ≤ 1000) : Calls Tryd.prog 17 #[.string s] w fun e w' => e = .returned (.int .i64 (startS s)) ∧ w' = w := by
  have hdig := fun b w => rdig_c b w
  by_cases h0 : s.size = 0
  · have e : Hid (startS s = 3) := by show _ = _; simp [startS, h0]
    obtain rfl : s = ⟨#[]⟩ := by
      apply ByteArray.ext
      apply Array.eq_empty_of_size_eq_zero
      exact h0
    rw [e.out]
    clear h0 hs
    go_enter Tryd.func17, Tryd.ntmps17
    go_wp2
    go_ret
    exact ⟨rfl, rfl⟩
  · have hE := list_none s h0
    have hE1 := list_one s
    have hs0 : 0 < s.size := by omega
    have hb0 := byteAt_eq (s := s) (k := 0) hs0
    by_cases h1 : s.size = 1 ∧ byteAt s 0 = 45
    · have e : Hid (startS s = 3) := by show _ = _; simp [startS, h1]
      have hE2 : (s.toList == ([45] : List UInt8)) = true := by rw [hE1]; simp [h1]
      rw [e.out]
      clear h1 hE1 h0
      go_enter Tryd.func17, Tryd.ntmps17
      go_wp2
      go_ret
      exact ⟨rfl, rfl⟩
    · have hE2 : (s.toList == ([45] : List UInt8)) = false := by
        rw [hE1, Bool.and_eq_false_iff, decide_eq_false_iff_not, decide_eq_false_iff_not]
        by_cases ha : s.size = 1
        · exact .inr fun hb => h1 ⟨ha, hb⟩
        · exact .inl ha
      have hst : Hid (startS s = if byteAt s 0 = 39 then 2 else if byteAt s 0 = 45 then (if isDig (byteAt s 1) then 1 else 0) else if isDig (byteAt s 0) then 1 else 0) := by
        show _ = _
        unfold startS; rw [if_neg (by intro h; rcases h with h | h; exact h0 h; exact h1 h)]
      have hs1 : byteAt s 0 = 45 → 1 < s.size := fun h => by
        rcases Nat.lt_or_ge 1 s.size with h2 | h2
        · exact h2
        · exact absurd ⟨by omega, h⟩ h1
      have hb1 : ∀ h : 1 < s.size, ((s[1]).toNat : Int) = byteAt s 1 := fun h => byteAt_eq h
      replace hs1 := hid0 hs1
      replace hb1 := hid0 hb1
      clear hE1 h1 h0
      generalize byteAt s 1 = b1 at *
      generalize byteAt s 0 = b0 at *
      obtain ⟨R, hR⟩ : ∃ R, Hid (startS s = R) := ⟨_, (rfl : _ = _)⟩
      rw [hR.out] at hst ⊢
      by_cases h2 : b0 = 39
      · have hq : (b0 == 39) = true := by simp [h2]
        have e : Hid (R = 2) := by show _ = _; rw [hst.out, if_pos h2]
        rw [e.out]
        clear h2 hst hR hdig
        go_enter Tryd.func17, Tryd.ntmps17
        go_wp2
        go_ret
        exact ⟨rfl, rfl⟩
      · have hq : (b0 == 39) = false := by simp [h2]
        by_cases h3 : b0 = 45
        · have hq3 : (b0 == 45) = true := by simp [h3]
          have hd0 : Hid (isDig b0 = false) := by show _ = _; rw [h3]; rfl
          have hl := hs1.out h3
          have hb1' := hb1.out hl
          have hc0 := fun w => hdig b0 w
          rw [hd0.out] at hc0
          have hc1 := fun w => hdig b1 w
          have e : Hid (R = if isDig b1 then 1 else 0) := by show _ = _; rw [hst.out, if_neg h2, if_pos h3]
          clear h2 h3 hst hR hdig
          cases hd : isDig b1 with
          | false =>
            rw [hd] at hc1 e
            have e2 : Hid (R = 0) := e.out
            rw [e2.out]
            clear hd
            go_enter Tryd.func17, Tryd.ntmps17
            go_wp2_with fail
            refine (hc0 _).mono ?_
            rintro e w' ⟨rfl, rfl⟩
            go_wp2_with fail
            refine (hc1 _).mono ?_
            rintro e w' ⟨rfl, rfl⟩
            go_wp2
            go_ret
            exact ⟨rfl, rfl⟩
          | true =>
            rw [hd] at hc1 e
            have e2 : Hid (R = 1) := e.out
            rw [e2.out]
            clear hd
            go_enter Tryd.func17, Tryd.ntmps17
            go_wp2_with fail
            refine (hc0 _).mono ?_
            rintro e w' ⟨rfl, rfl⟩
            go_wp2_with fail
            refine (hc1 _).mono ?_
            rintro e w' ⟨rfl, rfl⟩
            go_wp2
            go_ret
            exact ⟨rfl, rfl⟩
        · have hq3 : (b0 == 45) = false := by simp [h3]
          have hc0 := fun w => hdig b0 w
          have e : Hid (R = if isDig b0 then 1 else 0) := by show _ = _; rw [hst.out, if_neg h2, if_neg h3]
          clear h2 h3 hst hR hdig
          cases hd : isDig b0 with
          | false =>
            rw [hd] at hc0 e
            have e2 : Hid (R = 0) := e.out
            rw [e2.out]
            clear hd
            go_enter Tryd.func17, Tryd.ntmps17
            go_wp2_with fail
            refine (hc0 _).mono ?_
            rintro e w' ⟨rfl, rfl⟩
            go_wp2
            go_ret
            exact ⟨rfl, rfl⟩
          | true =>
            rw [hd] at hc0 e
            have e2 : Hid (R = 1) := e.out
            rw [e2.out]
            clear hd
            go_enter Tryd.func17, Tryd.ntmps17
            go_wp2_with fail
            refine (hc0 _).mono ?_
            rintro e w' ⟨rfl, rfl⟩
            go_wp2
            go_ret
            exact ⟨rfl, rfl⟩
end Go.Proofs.YtlpglldfchfaaabDoor
