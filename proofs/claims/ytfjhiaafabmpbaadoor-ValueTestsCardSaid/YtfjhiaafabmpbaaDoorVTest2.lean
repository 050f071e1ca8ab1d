/-
  VALUES TESTED AGAINST EACH OTHER: the program's, by contract.
-/
import Derived.Test.YtfjhiaafabmpbaaDoorVTest
namespace Go.Proofs.YtfjhiaafabmpbaaDoor
open Go.ChangeShapes Go.WideShapes Go.ChangeAt Go.RowKit

set_option maxHeartbeats 1600000 in
theorem vtest_c (o k n k' n' : Int) (s s' : ByteArray) (w : World) : Calls Tryd.prog 7 #[.int .i64 o, .agg #[.int .i64 k, .int .i64 n, .string s], .agg #[.int .i64 k', .int .i64 n', .string s']] w
    fun e w' => e = .returned (.bool (testV o k k' (orS (cmpI k k') (cmpI n n') (cmpS s s')))) ∧ Below w.heap.size w w' := by
  have hB0 : Below w.heap.size w ((w.alloc (.cells #[.int .i64 k, .int .i64 n, .string s] 23)).alloc (.cells #[.int .i64 k', .int .i64 n', .string s'] 23)) :=
    ((Below.refl _ _).alloc (Nat.le_refl _) _).alloc (by show _ ≤ (w.heap.push _).size; simp) _
  by_cases h0 : k = 0
  · subst h0
    rw [show testV o 0 k' (orS (cmpI 0 k') (cmpI n n') (cmpS s s')) = false by simp [testV]]
    go_enter Tryd.func7, Tryd.ntmps7
    go_wp2
    go_ret
    exact ⟨rfl, hB0⟩
  by_cases h1 : k' = 0
  · subst h1
    rw [show testV o k 0 (orS (cmpI k 0) (cmpI n n') (cmpS s s')) = false by simp [testV]]
    have h0' : (k == 0) = false := by simpa using h0
    go_enter Tryd.func7, Tryd.ntmps7
    go_wp2
    go_ret
    exact ⟨rfl, hB0⟩
  have h0' : (k == 0) = false := by simpa using h0
  have h1' : (k' == 0) = false := by simpa using h1
  by_cases h2 : o < 1
  · rw [show testV o k k' (orS (cmpI k k') (cmpI n n') (cmpS s s')) = false by simp [testV, h2]]
    go_enter Tryd.func7, Tryd.ntmps7
    go_wp2
    go_ret
    exact ⟨rfl, hB0⟩
  by_cases h3 : 6 < o
  · rw [show testV o k k' (orS (cmpI k k') (cmpI n n') (cmpS s s')) = false by simp [testV, h3]]
    go_enter Tryd.func7, Tryd.ntmps7
    go_wp2
    go_ret
    exact ⟨rfl, hB0⟩
  by_cases hk : ¬ k = k'
  · rw [show testV o k k' (orS (cmpI k k') (cmpI n n') (cmpS s s')) = (o == 2) by simp [testV, h0, h1, h2, h3, hk]]
    have hk' : (k == k') = false := by simpa using hk
    clear h0 h1 hk
    go_enter Tryd.func7, Tryd.ntmps7
    go_wp2
    go_ret
    exact ⟨rfl, hB0⟩
  have hk := Decidable.not_not.1 hk
  subst hk
  clear h1 h1'
  have hr := fun w => vcmp_c k n k n' s s' w
  generalize orS (cmpI k k) (cmpI n n') (cmpS s s') = c at *
  rcases (by omega : o = 1 ∨ o = 2 ∨ o = 3 ∨ o = 4 ∨ o = 5 ∨ o = 6) with rfl | rfl | rfl | rfl | rfl | rfl <;>
  · go_enter Tryd.func7, Tryd.ntmps7
    go_wp2_with fail
    refine (hr _).mono ?_
    rintro e w2 ⟨rfl, hB⟩
    have hB2 := hB0.trans (hB.mono hB0.size)
    clear hr hB hB0
    go_wp2
    go_ret
    exact ⟨by congr 2; simp [testV, h0], hB2⟩
end Go.Proofs.YtfjhiaafabmpbaaDoor
