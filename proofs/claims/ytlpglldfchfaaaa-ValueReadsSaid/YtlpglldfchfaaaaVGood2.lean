/-
  GOOD VALUES, whole: the program's and the reference's, by contract.
-/
import Derived.Test.YtlpglldfchfaaaaVGood
namespace Go.Proofs.Ytlpglldfchfaaaa
open Go.ChangeShapes Go.WideShapes Go.ChangeAt Go.RowKit

def emptyB (s : ByteArray) : Bool := s.toList == []
def goodV (k n : Int) (s : ByteArray) : Bool :=
  if k = 0 then n == 0 && emptyB s
  else if k = 1 then decide (-1000000000000 ≤ n) && decide (n ≤ 1000000000000) && emptyB s
  else if k = 2 then n == 0 && decide (s.size ≤ 100 ∧ plainS s)
  else false
set_option maxHeartbeats 1600000 in
theorem vgood_c (k n : Int) (s : ByteArray) (w : World) (hs : s.size ≤ 1000) : Calls Try.prog 7 #[.agg #[.int .i64 k, .int .i64 n, .string s]] w fun e w' => e = .returned (.bool (goodV k n s)) ∧ Below w.heap.size w w' := by
  have hg := fun w => goodtext_c s w hs
  obtain ⟨E, hE⟩ : ∃ E, (s.toList == ([] : List UInt8)) = E := ⟨_, rfl⟩
  have hE' : emptyB s = E := hE
  by_cases h0 : k = 0
  · subst h0
    by_cases hn : n = 0
    · subst hn
      rw [show goodV 0 0 s = E by simp [goodV, hE']]
      clear hE'
      go_enter Try.func7, Try.ntmps7
      go_wp2
      go_ret
      exact ⟨rfl, (Below.refl _ _).alloc (Nat.le_refl _) _⟩
    · rw [show goodV 0 n s = false by simp [goodV, hn]]
      have hn' : (n == 0) = false := by simpa using hn
      go_enter Try.func7, Try.ntmps7
      go_wp2
      go_ret
      exact ⟨rfl, (Below.refl _ _).alloc (Nat.le_refl _) _⟩
  have h0' : (k == 0) = false := by simpa using h0
  by_cases h1 : k = 1
  · subst h1
    by_cases ha : -1000000000000 ≤ n
    · by_cases hb : n ≤ 1000000000000
      · rw [show goodV 1 n s = E by simp [goodV, hE', ha, hb]]
        clear hE'
        go_enter Try.func7, Try.ntmps7
        go_wp2
        go_ret
        exact ⟨rfl, (Below.refl _ _).alloc (Nat.le_refl _) _⟩
      · rw [show goodV 1 n s = false by simp [goodV, hb]]
        go_enter Try.func7, Try.ntmps7
        go_wp2
        go_ret
        exact ⟨rfl, (Below.refl _ _).alloc (Nat.le_refl _) _⟩
    · rw [show goodV 1 n s = false by simp [goodV, ha]]
      go_enter Try.func7, Try.ntmps7
      go_wp2
      go_ret
      exact ⟨rfl, (Below.refl _ _).alloc (Nat.le_refl _) _⟩
  have h1' : (k == 1) = false := by simpa using h1
  by_cases h2 : k = 2
  · subst h2
    by_cases hn : n = 0
    · subst hn
      rw [show goodV 2 0 s = decide (s.size ≤ 100 ∧ plainS s) by simp [goodV]]
      clear hE hE'
      generalize decide (s.size ≤ 100 ∧ plainS s) = G at *
      go_enter Try.func7, Try.ntmps7
      go_wp2_with (go_at_call 14; refine (hg _).mono ?_; rintro e w' ⟨rfl, rfl⟩)
      go_ret
      exact ⟨rfl, (Below.refl _ _).alloc (Nat.le_refl _) _⟩
    · rw [show goodV 2 n s = false by simp [goodV, hn]]
      have hn' : (n == 0) = false := by simpa using hn
      go_enter Try.func7, Try.ntmps7
      go_wp2
      go_ret
      exact ⟨rfl, (Below.refl _ _).alloc (Nat.le_refl _) _⟩
  have h2' : (k == 2) = false := by simpa using h2
  rw [show goodV k n s = false by simp [goodV, h0, h1, h2]]
  clear h0 h1 h2
  go_enter Try.func7, Try.ntmps7
  go_wp2
  go_ret
  exact ⟨rfl, (Below.refl _ _).alloc (Nat.le_refl _) _⟩
end Go.Proofs.Ytlpglldfchfaaaa
