/-
  VALUES HELD AGAINST EACH OTHER: the reference's order, by contract.
-/
import Derived.Test.YtfjhiaafabmpbabVCmp2
namespace Go.Proofs.Ytfjhiaafabmpbab
open Go.ChangeShapes Go.WideShapes Go.ChangeAt Go.RowKit

/-- How two values stand, as the reference looks. -/
theorem stands (k n k' n' : Int) (s s' : ByteArray) {M : Prop}
    (h1 : k < k' → Hid (orS (cmpI k k') (cmpI n n') (cmpS s s') = -1) → M)
    (h2 : k = k' → n < n' → Hid (orS (cmpI k k') (cmpI n n') (cmpS s s') = -1) → M)
    (h3 : k = k' → n = n' → Op.bytesLess s.toList s'.toList = true → Hid (orS (cmpI k k') (cmpI n n') (cmpS s s') = -1) → M)
    (h4 : k = k' → n = n' → s = s' → Op.bytesLess s.toList s.toList = false → Hid (orS (cmpI k k') (cmpI n n') (cmpS s s') = 0) → M)
    (h5 : k' < k → (k == k') = false → Hid (orS (cmpI k k') (cmpI n n') (cmpS s s') = 1) → M)
    (h6 : k = k' → n' < n → (n == n') = false → Hid (orS (cmpI k k') (cmpI n n') (cmpS s s') = 1) → M)
    (h7 : k = k' → n = n' → Op.bytesLess s.toList s'.toList = false → (s.toList == s'.toList) = false → Hid (orS (cmpI k k') (cmpI n n') (cmpS s s') = 1) → M) : M := by
  by_cases a1 : k < k'
  · exact h1 a1 (by show _ = _; simp [orS, cmpI, a1])
  by_cases a2 : k' < k
  · exact h5 a2 (by simp; omega) (by show _ = _; simp [orS, cmpI, a1, a2])
  have ek : k = k' := by omega
  subst ek
  by_cases a3 : n < n'
  · exact h2 rfl a3 (by show _ = _; simp [orS, cmpI, a3])
  by_cases a4 : n' < n
  · exact h6 rfl a4 (by simp; omega) (by show _ = _; simp [orS, cmpI, a3, a4])
  have en : n = n' := by omega
  subst en
  cases a5 : Op.bytesLess s.toList s'.toList with
  | true => exact h3 rfl rfl a5 (by show _ = _; simp [orS, cmpI, cmpS, ltS, a5])
  | false =>
    cases a6 : Op.bytesLess s'.toList s.toList with
    | true =>
      refine h7 rfl rfl a5 ?_ (by show _ = _; simp [orS, cmpI, cmpS, ltS, a5, a6])
      rw [beq_eq_false_iff_ne]
      intro e
      rw [e, less_irrefl] at a6
      cases a6
    | false =>
      have e : s = s' := by
        have e := less_tri _ _ a5 a6
        rw [Go.ByteArray.toList_eq, Go.ByteArray.toList_eq] at e
        exact ByteArray.ext (Array.ext' e)
      subst e
      exact h4 rfl rfl rfl a5 (by show _ = _; simp [orS, cmpI, cmpS, ltS, less_irrefl])
set_option maxHeartbeats 800000 in
theorem rcmp_c (k n k' n' : Int) (s s' : ByteArray) (w : World) : Calls Try.prog 7 #[.agg #[.int .i64 k, .int .i64 n, .string s], .agg #[.int .i64 k', .int .i64 n', .string s']] w
    fun e w' => e = .returned (.int .i64 (orS (cmpI k k') (cmpI n n') (cmpS s s'))) ∧ Below w.heap.size w w' := by
  obtain ⟨hB, -, -⟩ := boxes2 w #[.int .i64 k, .int .i64 n, .string s] #[.int .i64 k', .int .i64 n', .string s'] 24 24
  have hB : Below w.heap.size w ((w.alloc (.cells #[.int .i64 k, .int .i64 n, .string s] 24)).alloc (.cells #[.int .i64 k', .int .i64 n', .string s'] 24)) := ⟨hB.os, hB.tape, hB.output, hB.size, hB.block⟩
  refine stands k n k' n' s s' (fun a e => ?_) (fun a b e => ?_) (fun a b c e => ?_) (fun a b c d e => ?_) (fun a b e => ?_) (fun a b c e => ?_) (fun a b c d e => ?_) <;> rw [e.out] <;> clear e
  · go_enter Try.func7, Try.ntmps7
    go_wp2
    go_ret
    exact ⟨rfl, hB⟩
  · subst a
    go_enter Try.func7, Try.ntmps7
    go_wp2
    go_ret
    exact ⟨rfl, hB⟩
  · subst a b
    go_enter Try.func7, Try.ntmps7
    go_wp2
    go_ret
    exact ⟨rfl, hB⟩
  · subst a b c
    go_enter Try.func7, Try.ntmps7
    go_wp2
    go_ret
    exact ⟨rfl, hB⟩
  · go_enter Try.func7, Try.ntmps7
    go_wp2
    go_ret
    exact ⟨rfl, hB⟩
  · subst a
    go_enter Try.func7, Try.ntmps7
    go_wp2
    go_ret
    exact ⟨rfl, hB⟩
  · subst a b
    go_enter Try.func7, Try.ntmps7
    go_wp2
    go_ret
    exact ⟨rfl, hB⟩
end Go.Proofs.Ytfjhiaafabmpbab
