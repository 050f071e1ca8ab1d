/-
  BITS IN THE OTHER ORDER, by swaps of halves. Mathematics alone.
-/
import Derived.Test.YtieinedancdokahPopMath
namespace Go.Proofs.Ytieinedancdokah

/-- Pairs of digits, swapped. -/
def swapD (k : Nat) : Nat → Nat → Nat
  | 0, _ => 0
  | n + 1, x => (x / 2 ^ k % 2 ^ k + 2 ^ k * (x % 2 ^ k)) + 2 ^ (2 * k) * swapD k n (x / 2 ^ (2 * k))
/-- All n digits of k bits, the other way round. -/
def revD (k : Nat) : Nat → Nat → Nat
  | 0, _ => 0
  | n + 1, x => 2 ^ (k * n) * (x % 2 ^ k) + revD k n (x / 2 ^ k)
/-- The lowest bits in the other order, one by one. -/
def turnN (x : Nat) : Nat → Nat
  | 0 => 0
  | k + 1 => 2 * turnN x k + x / 2 ^ k % 2
theorem or_part (j a b c d : Nat) (hc : c < 2 ^ j) (hd : d < 2 ^ j) : (2 ^ j * a + c) ||| (2 ^ j * b + d) = 2 ^ j * (a ||| b) + (c ||| d) := by
  apply Nat.eq_of_testBit_eq
  intro i
  rw [Nat.testBit_or, Nat.testBit_two_pow_mul_add _ hc, Nat.testBit_two_pow_mul_add _ hd, Nat.testBit_two_pow_mul_add _ (Nat.or_lt_two_pow hc hd)]
  by_cases h : i < j
  · simp [h, Nat.testBit_or]
  · simp [h, Nat.testBit_or]
theorem or_add (k c d : Nat) (hc : c < 2 ^ k) : c ||| 2 ^ k * d = c + 2 ^ k * d := by
  have := or_part k 0 d c 0 hc (Nat.two_pow_pos k)
  simp only [Nat.mul_zero, Nat.zero_add, Nat.add_zero, Nat.zero_or, Nat.or_zero] at this
  rw [this, Nat.add_comm]
theorem low_lt (k : Nat) : ∀ n x, lowD k n x < 2 ^ (2 * k * n)
  | 0, _ => by simp [lowD]
  | n + 1, x => by
    have ih := low_lt k n (x / 2 ^ (2 * k))
    have hp := Nat.two_pow_pos (2 * k)
    have hm : x % 2 ^ k < 2 ^ (2 * k) := Nat.lt_of_lt_of_le (Nat.mod_lt _ (Nat.two_pow_pos k)) (Nat.pow_le_pow_right (by omega) (by omega))
    rw [lowD, show 2 * k * (n + 1) = 2 * k + 2 * k * n by rw [Nat.mul_add]; omega, Nat.pow_add]
    have := Nat.mul_le_mul_left (2 ^ (2 * k)) (Nat.succ_le_of_lt ih)
    rw [Nat.succ_eq_add_one, Nat.mul_add, Nat.mul_one] at this
    omega
theorem low_or (k : Nat) : ∀ n x, lowD k n (x / 2 ^ k) ||| 2 ^ k * lowD k n x = swapD k n x
  | 0, _ => by simp [lowD, swapD]
  | n + 1, x => by
    have e : x / 2 ^ k / 2 ^ (2 * k) = x / 2 ^ (2 * k) / 2 ^ k := by rw [Nat.div_div_eq_div_mul, Nat.div_div_eq_div_mul, Nat.mul_comm]
    have ih := low_or k n (x / 2 ^ (2 * k))
    have h2 := two_mul_pow k
    have hp := Nat.two_pow_pos k
    have hm1 := Nat.mod_lt (x / 2 ^ k) hp
    have hm2 := Nat.mod_lt x hp
    have hle : 2 ^ k * (x % 2 ^ k) < 2 ^ (2 * k) := by
      rw [h2]; exact Nat.mul_lt_mul_of_pos_left hm2 hp
    have hlt : x / 2 ^ k % 2 ^ k < 2 ^ (2 * k) := Nat.lt_of_lt_of_le hm1 (by rw [h2]; exact Nat.le_mul_of_pos_left _ hp)
    rw [lowD, lowD, swapD, e]
    have e2 : 2 ^ k * (x % 2 ^ k + 2 ^ (2 * k) * lowD k n (x / 2 ^ (2 * k))) = 2 ^ (2 * k) * (2 ^ k * lowD k n (x / 2 ^ (2 * k))) + 2 ^ k * (x % 2 ^ k) := by
      rw [Nat.mul_add, Nat.mul_left_comm, Nat.add_comm]
    rw [e2, Nat.add_comm (x / 2 ^ k % 2 ^ k), or_part (2 * k) _ _ _ _ hlt hle, ih, or_add k _ _ hm1]
    omega
/-- Two shifts and masks, joined, are a swap. -/
theorem swap_masks (k n x : Nat) : (x / 2 ^ k &&& maskD k n) ||| 2 ^ k * (x &&& maskD k n) = swapD k n x := by
  rw [and_mask, and_mask, low_or]
theorem swap_low (k n x : Nat) : swapD k (n + 1) x % 2 ^ (2 * k) = x / 2 ^ k % 2 ^ k + 2 ^ k * (x % 2 ^ k) ∧ swapD k (n + 1) x / 2 ^ (2 * k) = swapD k n (x / 2 ^ (2 * k)) := by
  have h2 := two_mul_pow k
  have hp := Nat.two_pow_pos k
  have hm1 := Nat.mod_lt (x / 2 ^ k) hp
  have hm2 := Nat.mod_lt x hp
  have hle := Nat.mul_le_mul_left (2 ^ k) (Nat.succ_le_of_lt hm2)
  rw [Nat.succ_eq_add_one, Nat.mul_add, Nat.mul_one, ← h2] at hle
  have hlt : x / 2 ^ k % 2 ^ k + 2 ^ k * (x % 2 ^ k) < 2 ^ (2 * k) := by omega
  rw [swapD]
  constructor
  · rw [Nat.add_mul_mod_self_left, Nat.mod_eq_of_lt hlt]
  · rw [Nat.add_mul_div_left _ _ (Nat.two_pow_pos _), Nat.div_eq_of_lt hlt, Nat.zero_add]
theorem swap_lt (k : Nat) : ∀ n x, swapD k n x < 2 ^ (2 * k * n)
  | 0, _ => by simp [swapD]
  | n + 1, x => by
    obtain ⟨h1, h2⟩ := swap_low k n x
    have ih := swap_lt k n (x / 2 ^ (2 * k))
    rw [← h2] at ih
    rw [show 2 * k * (n + 1) = 2 * k + 2 * k * n by rw [Nat.mul_add]; omega, Nat.pow_add, Nat.mul_comm]
    exact (Nat.div_lt_iff_lt_mul (Nat.two_pow_pos _)).1 ih
theorem rev_swap (k : Nat) : ∀ n x, revD (2 * k) n (swapD k n x) = revD k (2 * n) x
  | 0, _ => rfl
  | n + 1, x => by
    obtain ⟨h1, h2⟩ := swap_low k n x
    rw [revD, h1, h2, rev_swap k n, show 2 * (n + 1) = 2 * n + 1 + 1 by omega, revD, revD, Nat.div_div_eq_div_mul, ← two_mul_pow]
    have e1 : 2 ^ (k * (2 * n + 1)) = 2 ^ (2 * k * n) * 2 ^ k := by rw [← Nat.pow_add]; congr 1; rw [Nat.mul_add, Nat.mul_one, ← Nat.mul_assoc, Nat.mul_comm k 2]
    have e2 : 2 ^ (k * (2 * n)) = 2 ^ (2 * k * n) := by congr 1; rw [← Nat.mul_assoc, Nat.mul_comm k 2]
    rw [e1, e2, Nat.mul_add, ← Nat.mul_assoc]
    omega
theorem rev_turn (x : Nat) : ∀ n, revD 1 n x = turnN x n
  | 0 => rfl
  | n + 1 => by
    have h : ∀ n x, revD 1 (n + 1) x = 2 * revD 1 n x + x / 2 ^ n % 2 := by
      intro n
      induction n with
      | zero => intro x; simp [revD]
      | succ n ih =>
        intro x
        rw [revD, ih (x / 2 ^ 1), revD, Nat.div_div_eq_div_mul, ← Nat.pow_add, show 1 + n = n + 1 by omega, show 1 * (n + 1) = 1 * n + 1 by omega, Nat.pow_succ, Nat.mul_add]
        generalize 2 ^ (1 * n) = P
        generalize x % 2 ^ 1 = r
        rw [show P * 2 * r = 2 * (P * r) by rw [Nat.mul_comm P 2, Nat.mul_assoc]]
        omega
    rw [h, turnN, rev_turn x n]
theorem turn_half (x k : Nat) : turnN x (k + 1) / 2 = turnN x k := by
  rw [turnN]
  have := Nat.mod_lt (x / 2 ^ k) (show 0 < 2 by omega)
  omega
theorem turn_down (x w : Nat) : ∀ d, turnN x (w + d) / 2 ^ d = turnN x w
  | 0 => by simp
  | d + 1 => by
    rw [Nat.pow_succ, Nat.mul_comm, ← Nat.div_div_eq_div_mul, ← Nat.add_assoc, turn_half, turn_down x w d]
theorem turn_lt (x : Nat) : ∀ w, turnN x w < 2 ^ w
  | 0 => by simp [turnN]
  | w + 1 => by
    have := turn_lt x w
    have h2 := Nat.mod_lt (x / 2 ^ w) (show 0 < 2 by omega)
    rw [turnN, Nat.pow_succ]; omega
theorem ds_last (n : Nat) : ∀ x, ds 1 (n + 1) x = ds 1 n x + x / 2 ^ n % 2 := by
  induction n with
  | zero => intro x; simp [ds]
  | succ n ih =>
    intro x
    rw [ds, ih (x / 2 ^ 1), ds, Nat.div_div_eq_div_mul, ← Nat.pow_add, show 1 + n = n + 1 by omega]
    omega
theorem ds_turn (x : Nat) : ∀ n, ds 1 n (turnN x n) = ds 1 n x
  | 0 => rfl
  | n + 1 => by
    have h2 := Nat.mod_lt (x / 2 ^ n) (show 0 < 2 by omega)
    rw [ds, show (2 : Nat) ^ 1 = 2 from rfl, turn_half, ds_turn x n, ds_last n x, turnN]
    omega
theorem ds_more (x : Nat) : ∀ n, x < 2 ^ n → ds 1 (n + 1) x = ds 1 n x := fun n h => by
  rw [ds_last, Nat.div_eq_of_lt h]; rfl
/-- All bits turned round, as the library does it. -/
def rev3 (x : Nat) : Nat := swapD 4 8 (swapD 2 16 (swapD 1 32 x))
theorem rev_all (x : Nat) (y : Nat) (hy : y = swapD 16 2 (swapD 8 4 (rev3 x))) : swapD 32 1 y = turnN x 64 := by
  have h1 := rev_swap 1 32 x
  have h2 := rev_swap 2 16 (swapD 1 32 x)
  have h3 := rev_swap 4 8 (swapD 2 16 (swapD 1 32 x))
  have h4 := rev_swap 8 4 (rev3 x)
  have h5 := rev_swap 16 2 (swapD 8 4 (rev3 x))
  have h6 := rev_swap 32 1 y
  have h7 := swap_lt 32 1 y
  rw [← rev_turn, ← h1, ← h2, ← h3]
  show _ = revD 8 8 (rev3 x)
  rw [← h4, ← h5, ← hy, ← h6]
  simp only [revD, Nat.mul_zero, Nat.pow_zero, Nat.one_mul, Nat.add_zero]
  exact (Nat.mod_eq_of_lt h7).symm
theorem masks2 : maskD 8 4 = 71777214294589695 ∧ maskD 16 2 = 281470681808895 := by decide
end Go.Proofs.Ytieinedancdokah
