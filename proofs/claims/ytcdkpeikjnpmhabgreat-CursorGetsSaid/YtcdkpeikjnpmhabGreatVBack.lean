/-
  WHAT IS PUT IS GOT AGAIN: plain facts on lists.
-/
import Derived.Test.YtcdkpeikjnpmhabGreatVGet
import Derived.Test.YtcdkpeikjnpmhabGreatVPutAll
namespace Go.Proofs.YtcdkpeikjnpmhabGreat
open Go.RowKit

theorem put_parts : ∀ (f n : Nat), n < 128 ^ (f + 1) → ∃ l b, putF (f + 1) n = l ++ [b] ∧ Ends l b ∧ (l = [] ∨ b.toNat ≠ 0) ∧ val (l ++ [b]) = n ∧ l.length ≤ f
  | f, n, hn => by
    by_cases hs : n < 128
    · refine ⟨[], UInt8.ofNat n, by simp [putF, hs], ⟨fun x hx => by simp at hx, ?_⟩, .inl rfl, ?_, Nat.zero_le _⟩
      · rw [UInt8.toNat_ofNat', Nat.mod_eq_of_lt (by omega)]; exact hs
      · simp only [List.nil_append, val, UInt8.toNat_ofNat']; omega
    · obtain ⟨f, rfl⟩ : ∃ g, f = g + 1 := by
        cases f with
        | zero => simp at hn; omega
        | succ g => exact ⟨g, rfl⟩
      obtain ⟨l, b, h1, h2, h3, h4, h5⟩ := put_parts f (n / 128) (by rw [Nat.div_lt_iff_lt_mul (by decide)]; rwa [Nat.pow_succ] at hn)
      have e : putF (f + 1 + 1) n = UInt8.ofNat (128 + n % 128) :: putF (f + 1) (n / 128) := by rw [putF, if_neg hs]
      have ht : (UInt8.ofNat (128 + n % 128)).toNat = 128 + n % 128 := by rw [UInt8.toNat_ofNat', Nat.mod_eq_of_lt (by omega)]
      refine ⟨UInt8.ofNat (128 + n % 128) :: l, b, by rw [e, h1]; rfl, ⟨fun x hx => ?_, h2.2⟩, .inr ?_, ?_, by simp; omega⟩
      · rcases List.mem_cons.1 hx with rfl | hx
        · omega
        · exact h2.1 x hx
      · rcases h3 with rfl | h3
        · intro hb
          simp only [List.nil_append, val] at h4
          omega
        · exact h3
      · rw [List.cons_append, val, h4, ht]; omega

theorem get_skip (L : List UInt8) : ∀ k, k ≤ 9 → k ≤ L.length → (∀ j, j < k → 128 ≤ (L.getD j 0).toNat) → getS L = getAt L k
  | 0, _, _, _ => rfl
  | k + 1, hk, hl, h => by
    rw [get_skip L k (by omega) (by omega) fun j hj => h j (by omega), getAt_eq L (by omega), if_pos ⟨by omega, by omega⟩, if_neg (by omega), if_pos (h k (by omega))]

theorem get_put (n : Nat) (hn : n < 18446744073709551616) (rest : List UInt8) : getS (put n ++ rest) = (n, (put n).length, 0) := by
  obtain ⟨l, b, h1, h2, h3, h4, _⟩ := put_parts 10 n (Nat.lt_of_lt_of_le hn (by decide))
  have h1 : put n = l ++ [b] := h1
  have hv := val_snoc l b
  rw [h4, Nat.mod_eq_of_lt h2.2] at hv
  have hl9 : l.length ≤ 9 := by
    rcases h3 with rfl | h3
    · simp
    · refine Nat.le_of_not_lt fun h => ?_
      have : 128 ^ 10 ≤ 128 ^ l.length := Nat.pow_le_pow_right (by decide) h
      have h5 : 1 * 128 ^ l.length ≤ b.toNat * 128 ^ l.length := Nat.mul_le_mul_right _ (by omega)
      omega
  rw [h1]
  have hlen : (l ++ [b] ++ rest).length = l.length + 1 + rest.length := by simp; omega
  have hat : ∀ j, j < l.length → (l ++ [b] ++ rest).getD j 0 = l.getD j 0 := fun j hj => by
    simp only [List.getD_eq_getElem?_getD]
    rw [List.append_assoc, List.getElem?_append_left hj]
  have hb : (l ++ [b] ++ rest).getD l.length 0 = b := by
    simp [List.getD_eq_getElem?_getD, List.append_assoc]
  rw [get_skip _ l.length hl9 (by omega) fun j hj => by
    rw [hat j hj]
    have : l.getD j 0 = l[j] := by simp [List.getD, hj]
    rw [this]; exact h2.1 _ (List.getElem_mem hj)]
  rw [getAt_eq _ (by omega), if_pos ⟨by omega, by omega⟩, hb]
  have h9 : ¬ (l.length = 9 ∧ 1 < b.toNat) := fun ⟨h5, h6⟩ => by
    rw [h5] at hv
    have e : (128 : Nat) ^ 9 = 9223372036854775808 := by decide
    rw [e] at hv
    omega
  rw [if_neg h9, if_neg (by have := h2.2; omega), if_neg (by
    rintro ⟨h5, h6⟩
    rcases h3 with rfl | h3
    · simp at h6
    · exact h3 h5)]
  have ht : (l ++ [b] ++ rest).take (l.length + 1) = l ++ [b] := by
    have : (l ++ [b]).length = l.length + 1 := by simp
    rw [← this, List.take_left']
    rfl
  rw [ht, h4]
  simp
end Go.Proofs.YtcdkpeikjnpmhabGreat
