/-
  WHAT IS GOT IS PUT SO: there is but one way to put a number. Plain facts on lists.
-/
import Derived.Test.YtmjffmjpefaafadVAll
namespace Go.Proofs.Ytmjffmjpefaafad
open Go.RowKit

theorem gt_put (L : List UInt8) : ∀ f i, f + i = 11 → (∀ x ∈ L.take i, 128 ≤ x.toNat) → (gt L f i).2.2 = 0 → put (gt L f i).1 = L.take (gt L f i).2.1
  | 0, i, _, _, h => by simp [gt] at h
  | f + 1, i, hf, ha, h => by
    rw [gt] at h ⊢
    split at h
    · rename_i h1
      rw [if_pos h1]
      have ht := take_snocU L i h1.1
      split at h
      · cases h
      · rename_i h2
        rw [if_neg h2]
        split at h
        · rename_i h3
          rw [if_pos h3]
          refine gt_put L f (i + 1) (by omega) (fun x hx => ?_) h
          rw [ht] at hx
          rcases List.mem_append.1 hx with hx | hx
          · exact ha x hx
          · rw [List.mem_singleton.1 hx]; exact h3
        · rename_i h3
          rw [if_neg h3]
          split at h
          · cases h
          · rename_i h4
            rw [if_neg h4]
            show putF 11 (val (L.take (i + 1))) = L.take (i + 1)
            rw [ht]
            exact back_yes (L.take i) (L.getD i 0) (k := i) (by omega) (by rw [List.length_take]; omega) ha (by omega) h4
    · cases h
theorem getS_put (L : List UInt8) (h : (getS L).2.2 = 0) : put (getS L).1 = L.take (getS L).2.1 := gt_put L 11 0 rfl (fun x hx => by simp at hx) h
theorem fa_bts (L : List UInt8) : ∀ f us A, bts us = L.take A → A ≤ L.length → L.length + 1 ≤ f + A → (fa L f us A).2 = 0 → bts (fa L f us A).1 = L
  | 0, us, A, _, hA, hf, _ => by omega
  | f + 1, us, A, hb, hA, hf, h => by
    rw [fa] at h ⊢
    split at h
    · rename_i h1
      rw [if_pos h1]
      split at h
      · rename_i h2; exact absurd h h2
      · rename_i h2
        rw [if_neg h2]
        have h3 : (getS (L.drop A)).2.2 = 0 := by omega
        have hbd := getS_bounds (L.drop A) h3
        have hps : 1 ≤ (getS (L.drop A)).2.1 := gt_pos (L.drop A) 11 0 h3
        rw [List.length_drop] at hbd
        refine fa_bts L f _ _ ?_ (by omega) (by omega) h
        rw [bts_snoc, getS_put _ h3, hb, List.take_add]
    · rename_i h1
      rw [if_neg h1]
      rw [hb, List.take_of_length_le (by omega)]
theorem allS_bts (L : List UInt8) (h : (allS L).2 = 0) : bts (allS L).1 = L := fa_bts L _ [] 0 (by simp [bts]) (Nat.zero_le _) (by omega) h
theorem fa_num (L : List UInt8) : ∀ f us A, (∀ u ∈ us, u < 18446744073709551616) → ∀ u ∈ (fa L f us A).1, u < 18446744073709551616
  | 0, us, A, h => h
  | f + 1, us, A, h => by
    rw [fa]
    split
    · split
      · simp
      · refine fa_num L f _ _ fun u hu => ?_
        rcases List.mem_append.1 hu with hu | hu
        · exact h u hu
        · rw [List.mem_singleton.1 hu]; exact getS_num _
    · exact h
theorem fa_len (L : List UInt8) : ∀ f us A, us.length ≤ A → A ≤ L.length → (fa L f us A).1.length ≤ L.length
  | 0, us, A, h, h2 => by simp only [fa]; omega
  | f + 1, us, A, h, h2 => by
    rw [fa]
    split
    · split
      · simp
      · rename_i h4
        have h3 : (getS (L.drop A)).2.2 = 0 := by omega
        have hbd := getS_bounds (L.drop A) h3
        have hps : 1 ≤ (getS (L.drop A)).2.1 := gt_pos (L.drop A) 11 0 h3
        rw [List.length_drop] at hbd
        exact fa_len L f _ _ (by simp; omega) (by omega)
    · show us.length ≤ _; omega
theorem fw_len (L : List UInt8) : ∀ n us A, us.length ≤ A → A ≤ L.length → (fw L n us A).1.length ≤ L.length
  | 0, us, A, h, h2 => by simp only [fw]; omega
  | n + 1, us, A, h, h2 => by
    rw [fw]
    split
    · simp
    · rename_i h4
      have h3 : (getS (L.drop A)).2.2 = 0 := by omega
      have hbd := getS_bounds (L.drop A) h3
      have hps : 1 ≤ (getS (L.drop A)).2.1 := gt_pos (L.drop A) 11 0 h3
      rw [List.length_drop] at hbd
      exact fw_len L n _ _ (by simp; omega) (by omega)
theorem lst_len (L : List UInt8) (n : Int) : (lst L n).1.length ≤ L.length := by
  unfold lst
  split
  · simp
  · exact fw_len L _ [] 0 (Nat.le_refl _) (Nat.zero_le _)
end Go.Proofs.Ytmjffmjpefaafad
