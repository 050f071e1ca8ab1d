/-
  HOW GREAT what is got can be: plain facts on lists.
-/
import Derived.Test.YtcdkpeikjnpmhabGreatVGet
namespace Go.Proofs.YtcdkpeikjnpmhabGreat
open Go.RowKit

theorem gt_bounds (L : List UInt8) : ∀ f i, f + i = 11 → (gt L f i).2.2 = 0 → (gt L f i).1 < 18446744073709551616 ∧ (gt L f i).2.1 ≤ L.length
  | 0, i, _, h => by simp [gt] at h
  | f + 1, i, hf, h => by
    rw [gt] at h ⊢
    split at h
    · rename_i h1
      rw [if_pos h1]
      split at h
      · cases h
      · rename_i h2
        rw [if_neg h2]
        split at h
        · rename_i h3
          rw [if_pos h3]
          exact gt_bounds L f (i + 1) (by omega) h
        · rename_i h3
          rw [if_neg h3]
          split at h
          · cases h
          · rename_i h4
            rw [if_neg h4]
            refine ⟨?_, h1.1⟩
            have ht := take_snocU L i h1.1
            have hv := val_snoc (L.take i) (L.getD i 0)
            have hl : (L.take i).length = i := by rw [List.length_take]; omega
            rw [← ht, hl] at hv
            exact (or_step (by omega) (by omega) (by have := val_lt (L.take i); rwa [hl] at this) hv).2
    · cases h
theorem getS_bounds (L : List UInt8) : (getS L).2.2 = 0 → (getS L).1 < 18446744073709551616 ∧ (getS L).2.1 ≤ L.length := gt_bounds L 11 0 rfl
theorem gt_zero (L : List UInt8) : ∀ f i, (gt L f i).2.2 ≠ 0 → (gt L f i).1 = 0
  | 0, i, _ => rfl
  | f + 1, i, h => by
    rw [gt] at h ⊢
    split at h
    · rename_i h1
      rw [if_pos h1]
      split at h
      · rename_i h2; rw [if_pos h2]
      · rename_i h2
        rw [if_neg h2]
        split at h
        · rename_i h3; rw [if_pos h3]; exact gt_zero L f (i + 1) h
        · rename_i h3
          rw [if_neg h3]
          split at h
          · rename_i h4; rw [if_pos h4]
          · exact absurd rfl h
    · rename_i h1; rw [if_neg h1]
theorem getS_num (L : List UInt8) : (getS L).1 < 18446744073709551616 := by
  by_cases h : (getS L).2.2 = 0
  · exact (getS_bounds L h).1
  · have e : (getS L).1 = 0 := gt_zero L 11 0 h
    omega
end Go.Proofs.YtcdkpeikjnpmhabGreat
