/-
  VALUES TESTED AGAINST EACH OTHER: the program's and the reference's, by contract.
-/
import Derived.Test.YtnmjhbnadfjapaaVRCmp
namespace Go.Proofs.Ytnmjhbnadfjapaa
open Go.ChangeShapes Go.WideShapes Go.ChangeAt Go.RowKit

/-- Two boxes with a value in each. -/
def twoV (w : World) (k n k' n' : Int) (s s' : ByteArray) : List (Addr × Value) :=
  [(⟨w.heap.size, 0, none⟩, .int .i64 k), (⟨w.heap.size, 1, none⟩, .int .i64 n), (⟨w.heap.size, 2, none⟩, .string s),
   (⟨w.heap.size + 1, 0, none⟩, .int .i64 k'), (⟨w.heap.size + 1, 1, none⟩, .int .i64 n'), (⟨w.heap.size + 1, 2, none⟩, .string s')]
theorem twoV_keeps (w : World) (k n k' n' : Int) (s s' : ByteArray) (t u : TypeId) :
    Keeps w (twoV w k n k' n' s s') ((w.alloc (.cells #[.int .i64 k, .int .i64 n, .string s] t)).alloc (.cells #[.int .i64 k', .int .i64 n', .string s'] u)).drew := by
  obtain ⟨hB, h1, h2⟩ := boxes2 w #[.int .i64 k, .int .i64 n, .string s] #[.int .i64 k', .int .i64 n', .string s'] t u
  refine ⟨hB, fun p hp => ?_⟩
  simp only [twoV, List.mem_cons, List.not_mem_nil, or_false] at hp
  rcases hp with rfl | rfl | rfl | rfl | rfl | rfl
  · exact h1 0 _ rfl
  · exact h1 1 _ rfl
  · exact h1 2 _ rfl
  · exact h2 0 _ rfl
  · exact h2 1 _ rfl
  · exact h2 2 _ rfl

/-- Whether two values stand so. -/
def testV (o k k' c : Int) : Bool :=
  if k = 0 ∨ k' = 0 ∨ o < 1 ∨ 6 < o then false
  else if k ≠ k' then o == 2
  else if o = 1 then c == 0 else if o = 2 then c != 0 else if o = 3 then decide (c < 0) else if o = 4 then decide (c ≤ 0) else if o = 5 then decide (0 < c) else decide (0 ≤ c)
/-- Equal or not, as the order says. -/
theorem alike_of (k n n' : Int) (s s' : ByteArray) {M : Prop}
    (h1 : n = n' → s = s' → Hid (orS (cmpI k k) (cmpI n n') (cmpS s s') = 0) → M)
    (h2 : (n == n') = false → Hid (orS (cmpI k k) (cmpI n n') (cmpS s s') ≠ 0) → M)
    (h3 : n = n' → (s.toList == s'.toList) = false → Hid (orS (cmpI k k) (cmpI n n') (cmpS s s') ≠ 0) → M) : M := by
  by_cases hn : n = n'
  · subst hn
    by_cases hs : s = s'
    · subst hs
      exact h1 rfl rfl (by show _ = _; simp [orS, cmpI, cmpS, ltS, less_irrefl])
    · have hne : ¬ s.toList = s'.toList := fun e => by
        rw [Go.ByteArray.toList_eq, Go.ByteArray.toList_eq] at e
        exact hs (ByteArray.ext (Array.ext' e))
      refine h3 rfl (by simpa using hne) ?_
      show _ ≠ _
      cases a : Op.bytesLess s.toList s'.toList with
      | true => simp [orS, cmpI, cmpS, ltS, a]
      | false =>
        cases b : Op.bytesLess s'.toList s.toList with
        | true => simp [orS, cmpI, cmpS, ltS, a, b]
        | false => exact absurd (less_tri _ _ a b) hne
  · refine h2 (by simpa using hn) ?_
    show _ ≠ _
    simp only [orS, cmpI]
    split <;> split <;> (try split) <;> (try split) <;> omega
set_option maxHeartbeats 1600000 in
theorem rtest_c (o k n k' n' : Int) (s s' : ByteArray) (w : World) : Calls Try.prog 50 #[.int .i64 o, .agg #[.int .i64 k, .int .i64 n, .string s], .agg #[.int .i64 k', .int .i64 n', .string s']] w
    fun e w' => e = .returned (.bool (testV o k k' (orS (cmpI k k') (cmpI n n') (cmpS s s')))) ∧ Below w.heap.size w w' := by
  have hB0 : Below w.heap.size w ((w.alloc (.cells #[.int .i64 k, .int .i64 n, .string s] 27)).alloc (.cells #[.int .i64 k', .int .i64 n', .string s'] 27)) := by
    obtain ⟨hB, -, -⟩ := boxes2 w #[.int .i64 k, .int .i64 n, .string s] #[.int .i64 k', .int .i64 n', .string s'] 27 27
    exact ⟨hB.os, hB.tape, hB.output, hB.size, hB.block⟩
  by_cases h0 : k = 0
  · subst h0
    rw [show testV o 0 k' (orS (cmpI 0 k') (cmpI n n') (cmpS s s')) = false by simp [testV]]
    go_enter Try.func50, Try.ntmps50
    go_wp2
    go_ret
    exact ⟨rfl, hB0⟩
  by_cases h1 : k' = 0
  · subst h1
    rw [show testV o k 0 (orS (cmpI k 0) (cmpI n n') (cmpS s s')) = false by simp [testV]]
    have h0' : (k == 0) = false := by simpa using h0
    go_enter Try.func50, Try.ntmps50
    go_wp2
    go_ret
    exact ⟨rfl, hB0⟩
  have h0' : (k == 0) = false := by simpa using h0
  have h1' : (k' == 0) = false := by simpa using h1
  by_cases h2 : o < 1
  · rw [show testV o k k' (orS (cmpI k k') (cmpI n n') (cmpS s s')) = false by simp [testV, h2]]
    go_enter Try.func50, Try.ntmps50
    go_wp2
    go_ret
    exact ⟨rfl, hB0⟩
  by_cases h3 : 6 < o
  · rw [show testV o k k' (orS (cmpI k k') (cmpI n n') (cmpS s s')) = false by simp [testV, h3]]
    go_enter Try.func50, Try.ntmps50
    go_wp2
    go_ret
    exact ⟨rfl, hB0⟩
  by_cases hk : ¬ k = k'
  · rw [show testV o k k' (orS (cmpI k k') (cmpI n n') (cmpS s s')) = (o == 2) by simp [testV, h0, h1, h2, h3, hk]]
    have hk' : (k == k') = false := by simpa using hk
    clear h0 h1 hk
    go_enter Try.func50, Try.ntmps50
    go_wp2
    go_ret
    exact ⟨rfl, hB0⟩
  have hk := Decidable.not_not.1 hk
  subst hk
  clear h1 h1' hB0
  have hk1 := twoV_keeps w k n k n' s s' 27 27
  have hr := fun w => rcmp_c k n k n' s s' w
  have f0 : ∀ x : In (Keeps w (twoV w k n k n' s s')), _ := Keeps.at 0 rfl
  have f1 : ∀ x : In (Keeps w (twoV w k n k n' s s')), _ := Keeps.at 1 rfl
  have f2 : ∀ x : In (Keeps w (twoV w k n k n' s s')), _ := Keeps.at 2 rfl
  have f3 : ∀ x : In (Keeps w (twoV w k n k n' s s')), _ := Keeps.at 3 rfl
  have f4 : ∀ x : In (Keeps w (twoV w k n k n' s s')), _ := Keeps.at 4 rfl
  have f5 : ∀ x : In (Keeps w (twoV w k n k n' s s')), _ := Keeps.at 5 rfl
  dsimp only at f0 f1 f2 f3 f4 f5
  refine alike_of k n n' s s' (fun a b e => ?_) (fun a e => ?_) (fun a b e => ?_)
  · subst a b
    generalize orS (cmpI k k) (cmpI n n) (cmpS s s) = c at *
    have hc := e.out
    subst hc
    clear e
    go_enter Try.func50, Try.ntmps50
    go_wp2_with fail
    refine wp_region_later (Keeps w (twoV w k n k n s s)) (by kernel_rfl) (by kernel_rfl) hk1 (fun hne => ?_)
    repeat (go_big_quiet_step (exact Keeps.calls hr _))
    refine wpQuiet_nil ?_
    intro wL hL
    clear f0 f1 f2 f3 f4 f5 hk1 hr
    rcases (by omega : o = 1 ∨ o = 2 ∨ o = 3 ∨ o = 4 ∨ o = 5 ∨ o = 6) with rfl | rfl | rfl | rfl | rfl | rfl <;>
    · go_wp2
      go_ret
      exact ⟨by simp [testV, h0], hL.1.alloc hL.1.size _⟩
  · generalize orS (cmpI k k) (cmpI n n') (cmpS s s') = c at *
    have hc := e.out
    clear e
    rcases (by omega : c < 0 ∨ 0 < c) with hc | hc <;>
    · go_enter Try.func50, Try.ntmps50
      go_wp2_with fail
      refine wp_region_later (Keeps w (twoV w k n k n' s s')) (by kernel_rfl) (by kernel_rfl) hk1 (fun hne => ?_)
      repeat (go_big_quiet_step (exact Keeps.calls hr _))
      refine wpQuiet_nil ?_
      intro wL hL
      clear f0 f1 f2 f3 f4 f5 hk1 hr
      rcases (by omega : o = 1 ∨ o = 2 ∨ o = 3 ∨ o = 4 ∨ o = 5 ∨ o = 6) with rfl | rfl | rfl | rfl | rfl | rfl <;>
      · go_wp2
        go_ret
        exact ⟨by congr 2; simp [testV, h0] <;> first | omega | (rw [Bool.eq_iff_iff]; simp <;> omega), hL.1.alloc hL.1.size _⟩
  · subst a
    generalize orS (cmpI k k) (cmpI n n) (cmpS s s') = c at *
    have hc := e.out
    clear e
    rcases (by omega : c < 0 ∨ 0 < c) with hc | hc <;>
    · go_enter Try.func50, Try.ntmps50
      go_wp2_with fail
      refine wp_region_later (Keeps w (twoV w k n k n s s')) (by kernel_rfl) (by kernel_rfl) hk1 (fun hne => ?_)
      repeat (go_big_quiet_step (exact Keeps.calls hr _))
      refine wpQuiet_nil ?_
      intro wL hL
      clear f0 f1 f2 f3 f4 f5 hk1 hr
      rcases (by omega : o = 1 ∨ o = 2 ∨ o = 3 ∨ o = 4 ∨ o = 5 ∨ o = 6) with rfl | rfl | rfl | rfl | rfl | rfl <;>
      · go_wp2
        go_ret
        exact ⟨by congr 2; simp [testV, h0] <;> first | omega | (rw [Bool.eq_iff_iff]; simp <;> omega), hL.1.alloc hL.1.size _⟩
end Go.Proofs.Ytnmjhbnadfjapaa
/-
  VALUES TESTED AGAINST EACH OTHER: the program's, by contract.
-/
namespace Go.Proofs.Ytnmjhbnadfjapaa
open Go.ChangeShapes Go.WideShapes Go.ChangeAt Go.RowKit

set_option maxHeartbeats 1600000 in
theorem vtest_c (o k n k' n' : Int) (s s' : ByteArray) (w : World) : Calls Try.prog 49 #[.int .i64 o, .agg #[.int .i64 k, .int .i64 n, .string s], .agg #[.int .i64 k', .int .i64 n', .string s']] w
    fun e w' => e = .returned (.bool (testV o k k' (orS (cmpI k k') (cmpI n n') (cmpS s s')))) ∧ Below w.heap.size w w' := by
  have hB0 : Below w.heap.size w ((w.alloc (.cells #[.int .i64 k, .int .i64 n, .string s] 27)).alloc (.cells #[.int .i64 k', .int .i64 n', .string s'] 27)) :=
    ((Below.refl _ _).alloc (Nat.le_refl _) _).alloc (by show _ ≤ (w.heap.push _).size; simp) _
  by_cases h0 : k = 0
  · subst h0
    rw [show testV o 0 k' (orS (cmpI 0 k') (cmpI n n') (cmpS s s')) = false by simp [testV]]
    go_enter Try.func49, Try.ntmps49
    go_wp2
    go_ret
    exact ⟨rfl, hB0⟩
  by_cases h1 : k' = 0
  · subst h1
    rw [show testV o k 0 (orS (cmpI k 0) (cmpI n n') (cmpS s s')) = false by simp [testV]]
    have h0' : (k == 0) = false := by simpa using h0
    go_enter Try.func49, Try.ntmps49
    go_wp2
    go_ret
    exact ⟨rfl, hB0⟩
  have h0' : (k == 0) = false := by simpa using h0
  have h1' : (k' == 0) = false := by simpa using h1
  by_cases h2 : o < 1
  · rw [show testV o k k' (orS (cmpI k k') (cmpI n n') (cmpS s s')) = false by simp [testV, h2]]
    go_enter Try.func49, Try.ntmps49
    go_wp2
    go_ret
    exact ⟨rfl, hB0⟩
  by_cases h3 : 6 < o
  · rw [show testV o k k' (orS (cmpI k k') (cmpI n n') (cmpS s s')) = false by simp [testV, h3]]
    go_enter Try.func49, Try.ntmps49
    go_wp2
    go_ret
    exact ⟨rfl, hB0⟩
  by_cases hk : ¬ k = k'
  · rw [show testV o k k' (orS (cmpI k k') (cmpI n n') (cmpS s s')) = (o == 2) by simp [testV, h0, h1, h2, h3, hk]]
    have hk' : (k == k') = false := by simpa using hk
    clear h0 h1 hk
    go_enter Try.func49, Try.ntmps49
    go_wp2
    go_ret
    exact ⟨rfl, hB0⟩
  have hk := Decidable.not_not.1 hk
  subst hk
  clear h1 h1'
  have hr := fun w => vcmp_c k n k n' s s' w
  generalize orS (cmpI k k) (cmpI n n') (cmpS s s') = c at *
  rcases (by omega : o = 1 ∨ o = 2 ∨ o = 3 ∨ o = 4 ∨ o = 5 ∨ o = 6) with rfl | rfl | rfl | rfl | rfl | rfl <;>
  · go_enter Try.func49, Try.ntmps49
    go_wp2_with fail
    refine (hr _).mono ?_
    rintro e w2 ⟨rfl, hB⟩
    have hB2 := hB0.trans (hB.mono hB0.size)
    clear hr hB hB0
    go_wp2
    go_ret
    exact ⟨by congr 2; simp [testV, h0], hB2⟩
end Go.Proofs.Ytnmjhbnadfjapaa
