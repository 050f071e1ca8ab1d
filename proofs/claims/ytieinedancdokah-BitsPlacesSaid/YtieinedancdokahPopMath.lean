/-
  HOW MANY BITS OF A NUMBER ARE 1, by halves, quarters and so on. Mathematics alone.
-/
import Derived.Test.YtieinedancdokahRows1
namespace Go.Proofs.Ytieinedancdokah

/-- The sum of n digits of k bits each. -/
def ds (k : Nat) : Nat → Nat → Nat
  | 0, _ => 0
  | n + 1, x => x % 2 ^ k + ds k n (x / 2 ^ k)
/-- Pairs of digits, added. -/
def stepD (k : Nat) : Nat → Nat → Nat
  | 0, _ => 0
  | n + 1, x => (x % 2 ^ k + x / 2 ^ k % 2 ^ k) + 2 ^ (2 * k) * stepD k n (x / 2 ^ (2 * k))
/-- Each second digit's bits. -/
def maskD (k : Nat) : Nat → Nat
  | 0 => 0
  | n + 1 => (2 ^ k - 1) + 2 ^ (2 * k) * maskD k n
/-- Each second digit alone. -/
def lowD (k : Nat) : Nat → Nat → Nat
  | 0, _ => 0
  | n + 1, x => x % 2 ^ k + 2 ^ (2 * k) * lowD k n (x / 2 ^ (2 * k))
/-- Each digit is at most so great. -/
def leD (k d : Nat) : Nat → Nat → Prop
  | 0, _ => True
  | n + 1, x => x % 2 ^ k ≤ d ∧ leD k d n (x / 2 ^ k)
theorem and_part (j a b c d : Nat) (hc : c < 2 ^ j) (hd : d < 2 ^ j) : (2 ^ j * a + c) &&& (2 ^ j * b + d) = 2 ^ j * (a &&& b) + (c &&& d) := by
  apply Nat.eq_of_testBit_eq
  intro i
  rw [Nat.testBit_and, Nat.testBit_two_pow_mul_add _ hc, Nat.testBit_two_pow_mul_add _ hd, Nat.testBit_two_pow_mul_add _ (Nat.lt_of_le_of_lt Nat.and_le_left hc)]
  by_cases h : i < j
  · simp [h, Nat.testBit_and]
  · simp [h, Nat.testBit_and]
theorem two_mul_pow (k : Nat) : 2 ^ (2 * k) = 2 ^ k * 2 ^ k := by rw [Nat.two_mul, Nat.pow_add]
theorem and_mask (k : Nat) : ∀ n x, x &&& maskD k n = lowD k n x
  | 0, x => by simp [maskD, lowD]
  | n + 1, x => by
    have hp := Nat.two_pow_pos k
    have h2 := two_mul_pow k
    have hle : 2 ^ k ≤ 2 ^ (2 * k) := Nat.pow_le_pow_right (by omega) (by omega)
    have e : x = 2 ^ (2 * k) * (x / 2 ^ (2 * k)) + x % 2 ^ (2 * k) := (Nat.div_add_mod x _).symm
    have hm := and_part (2 * k) (x / 2 ^ (2 * k)) (maskD k n) (x % 2 ^ (2 * k)) (2 ^ k - 1) (Nat.mod_lt _ (Nat.two_pow_pos _)) (by omega)
    rw [← e, Nat.add_comm (2 ^ (2 * k) * maskD k n)] at hm
    rw [maskD, lowD, hm, and_mask k n, Nat.and_two_pow_sub_one_eq_mod, Nat.mod_mod_of_dvd _ (by rw [h2]; exact Nat.dvd_mul_right _ _), Nat.add_comm]
theorem low_add (k : Nat) : ∀ n x, lowD k n (x / 2 ^ k) + lowD k n x = stepD k n x
  | 0, _ => rfl
  | n + 1, x => by
    have e : x / 2 ^ k / 2 ^ (2 * k) = x / 2 ^ (2 * k) / 2 ^ k := by rw [Nat.div_div_eq_div_mul, Nat.div_div_eq_div_mul, Nat.mul_comm]
    have := low_add k n (x / 2 ^ (2 * k))
    rw [lowD, lowD, stepD, e, ← this, Nat.mul_add]
    omega
/-- Two shifts and masks are a step. -/
theorem step_masks (k n x : Nat) : (x / 2 ^ k &&& maskD k n) + (x &&& maskD k n) = stepD k n x := by
  rw [and_mask, and_mask, low_add]
theorem step_low (k n x : Nat) (hk : 0 < k) : stepD k (n + 1) x % 2 ^ (2 * k) = x % 2 ^ k + x / 2 ^ k % 2 ^ k ∧ stepD k (n + 1) x / 2 ^ (2 * k) = stepD k n (x / 2 ^ (2 * k)) := by
  have h2 := two_mul_pow k
  have hp : 2 ≤ 2 ^ k := Nat.pow_le_pow_right (n := 2) (by omega) hk
  have h3 : 2 * 2 ^ k ≤ 2 ^ k * 2 ^ k := Nat.mul_le_mul_right _ hp
  have m1 := Nat.mod_lt x (Nat.two_pow_pos k)
  have m2 := Nat.mod_lt (x / 2 ^ k) (Nat.two_pow_pos k)
  have hlt : x % 2 ^ k + x / 2 ^ k % 2 ^ k < 2 ^ (2 * k) := by omega
  rw [stepD]
  constructor
  · rw [Nat.add_mul_mod_self_left, Nat.mod_eq_of_lt hlt]
  · rw [Nat.add_mul_div_left _ _ (Nat.two_pow_pos _), Nat.div_eq_of_lt hlt, Nat.zero_add]
theorem ds_step (k : Nat) (hk : 0 < k) : ∀ n x, ds (2 * k) n (stepD k n x) = ds k (2 * n) x
  | 0, _ => rfl
  | n + 1, x => by
    obtain ⟨h1, h2⟩ := step_low k n x hk
    rw [ds, h1, h2, ds_step k hk n, show 2 * (n + 1) = 2 * n + 1 + 1 by omega, ds, ds, Nat.div_div_eq_div_mul, ← two_mul_pow]
    omega
theorem le_step (k d : Nat) (hk : 0 < k) : ∀ n x, leD k d (2 * n) x → leD (2 * k) (2 * d) n (stepD k n x)
  | 0, _, _ => trivial
  | n + 1, x, h => by
    obtain ⟨h1, h2⟩ := step_low k n x hk
    rw [show 2 * (n + 1) = 2 * n + 1 + 1 by omega] at h
    obtain ⟨a, b, c⟩ := h
    rw [Nat.div_div_eq_div_mul, ← two_mul_pow] at c
    refine ⟨by rw [h1]; omega, ?_⟩
    rw [h2]
    exact le_step k d hk n _ c
theorem le_one : ∀ n x, leD 1 1 n x
  | 0, _ => trivial
  | n + 1, x => ⟨by have := Nat.mod_lt x (show 0 < 2 ^ 1 by omega); omega, le_one n _⟩
/-- Small digits of four bits each may be added first. -/
theorem low_sum : ∀ n x, leD 4 4 (2 * n) x → lowD 4 n (x / 2 ^ 4 + x) = stepD 4 n x
  | 0, _, _ => rfl
  | n + 1, x, h => by
    rw [show 2 * (n + 1) = 2 * n + 1 + 1 by omega] at h
    obtain ⟨a, b, c⟩ := h
    rw [Nat.div_div_eq_div_mul] at c
    have e2 : (2 : Nat) ^ (2 * 4) = 256 := rfl
    have e3 : (2 : Nat) ^ 4 * 2 ^ 4 = 256 := rfl
    have e4 : (2 : Nat) ^ 4 = 16 := rfl
    rw [e3] at c
    have ih := low_sum n (x / 256) c
    rw [lowD, stepD, e2]
    rw [e4] at ih a b ⊢
    have f1 : (x / 16 + x) % 16 = x % 16 + x / 16 % 16 := by omega
    rw [f1]
    cases n with
    | zero => rfl
    | succ n =>
      have c0 : x / 256 % 16 ≤ 4 := by
        rw [show 2 * (n + 1) = 2 * n + 1 + 1 by omega] at c
        exact c.1
      have f2 : (x / 16 + x) / 256 = x / 256 / 16 + x / 256 := by
        have g1 : x / 16 / 16 = x / 256 := Nat.div_div_eq_div_mul x 16 16
        have g2 := Nat.div_add_mod x 16
        have g3 := Nat.div_add_mod (x / 16) 16
        have g4 := Nat.div_add_mod (x / 256) 16
        rw [g1] at g3
        have hs : x / 16 + x = 256 * (x / 256 / 16 + x / 256) + (16 * (x / 256 % 16) + 17 * (x / 16 % 16) + x % 16) := by omega
        rw [hs, Nat.mul_add_div (by omega), Nat.div_eq_of_lt (a := 16 * (x / 256 % 16) + 17 * (x / 16 % 16) + x % 16) (by omega)]
        omega
      rw [f2, ih]
theorem ds_eight (x : Nat) : ds 8 8 x = x % 256 + (x / 256 % 256 + (x / 256 / 256 % 256 + (x / 256 / 256 / 256 % 256 + (x / 256 / 256 / 256 / 256 % 256 + (x / 256 / 256 / 256 / 256 / 256 % 256 + (x / 256 / 256 / 256 / 256 / 256 / 256 % 256 + x / 256 / 256 / 256 / 256 / 256 / 256 / 256 % 256)))))) := rfl
theorem fold_a (x x1 x2 x3 b0 b1 b2 : Nat) (k0 : 256 * x1 + b0 = x) (k1 : 256 * x2 + b1 = x1) (k2 : 256 * x3 + b2 = x2) (h0 : b0 ≤ 8) (h1 : b1 ≤ 8) (h2 : b2 ≤ 8) : (x + x1) / 65536 = x2 + x3 := by
  have e : x + x1 = 65536 * (x2 + x3) + (256 * b2 + 257 * b1 + b0) := by omega
  rw [e, Nat.mul_add_div (by omega), Nat.div_eq_of_lt (by omega), Nat.add_zero]
theorem fold_b (x x1 x2 x3 x4 x5 x6 x7 b0 b1 b2 b3 b4 b5 b6 : Nat) (k0 : 256 * x1 + b0 = x) (k1 : 256 * x2 + b1 = x1) (k2 : 256 * x3 + b2 = x2) (k3 : 256 * x4 + b3 = x3) (k4 : 256 * x5 + b4 = x4) (k5 : 256 * x6 + b5 = x5) (k6 : 256 * x7 + b6 = x6)
    (h0 : b0 ≤ 8) (h1 : b1 ≤ 8) (h2 : b2 ≤ 8) (h3 : b3 ≤ 8) (h4 : b4 ≤ 8) (h5 : b5 ≤ 8) (h6 : b6 ≤ 8) : (x + x1 + (x2 + x3)) / 4294967296 = x4 + x5 + (x6 + x7) := by
  have e : x + x1 + (x2 + x3) = 4294967296 * (x4 + x5 + (x6 + x7)) + (16777216 * b6 + 16842752 * b5 + 16843008 * b4 + 16843009 * b3 + 65793 * b2 + 257 * b1 + b0) := by omega
  rw [e, Nat.mul_add_div (by omega), Nat.div_eq_of_lt (by omega), Nat.add_zero]
theorem fold_c (x x1 x2 x3 x4 x5 x6 x7 b0 b1 b2 b3 b4 b5 b6 : Nat) (k0 : 256 * x1 + b0 = x) (k1 : 256 * x2 + b1 = x1) (k2 : 256 * x3 + b2 = x2) (k3 : 256 * x4 + b3 = x3) (k4 : 256 * x5 + b4 = x4) (k5 : 256 * x6 + b5 = x5) (k6 : 256 * x7 + b6 = x6)
    (h0 : b0 ≤ 8) (h1 : b1 ≤ 8) (h2 : b2 ≤ 8) (h3 : b3 ≤ 8) (h4 : b4 ≤ 8) (h5 : b5 ≤ 8) (h6 : b6 ≤ 8) (h7 : x7 ≤ 8) : (x + x1 + (x2 + x3) + (x4 + x5 + (x6 + x7))) % 128 = b0 + (b1 + (b2 + (b3 + (b4 + (b5 + (b6 + x7)))))) ∧ x + x1 + (x2 + x3) + (x4 + x5 + (x6 + x7)) < 18446744073709551616 := by
  have l6 : x6 ≤ 2056 := by omega
  have l5 : x5 ≤ 526344 := by omega
  have l4 : x4 ≤ 134744072 := by omega
  have l3 : x3 ≤ 34494482440 := by omega
  have l2 : x2 ≤ 8830587504648 := by omega
  have l1 : x1 ≤ 2260630401189896 := by omega
  have l0 : x ≤ 578721382704613384 := by omega
  refine ⟨?_, by omega⟩
  have e : x + x1 + (x2 + x3) + (x4 + x5 + (x6 + x7)) = 128 * (2 * (x1 + x2 + x3 + x4 + x5 + x6 + x7)) + (b0 + (b1 + (b2 + (b3 + (b4 + (b5 + (b6 + x7))))))) := by omega
  rw [e, Nat.mul_add_mod]
  exact Nat.mod_eq_of_lt (by omega)
theorem fold_lin (x x1 x2 x3 x4 x5 x6 x7 b0 b1 b2 b3 b4 b5 b6 : Nat) (k0 : 256 * x1 + b0 = x) (k1 : 256 * x2 + b1 = x1) (k2 : 256 * x3 + b2 = x2) (k3 : 256 * x4 + b3 = x3) (k4 : 256 * x5 + b4 = x4) (k5 : 256 * x6 + b5 = x5) (k6 : 256 * x7 + b6 = x6)
    (h0 : b0 ≤ 8) (h1 : b1 ≤ 8) (h2 : b2 ≤ 8) (h3 : b3 ≤ 8) (h4 : b4 ≤ 8) (h5 : b5 ≤ 8) (h6 : b6 ≤ 8) (h7 : x7 % 256 ≤ 8) (hx : x < 18446744073709551616) :
    (x + x1 + (x + x1) / 65536 + (x + x1 + (x + x1) / 65536) / 4294967296) % 128 = b0 + (b1 + (b2 + (b3 + (b4 + (b5 + (b6 + x7 % 256)))))) ∧ x + x1 + (x + x1) / 65536 + (x + x1 + (x + x1) / 65536) / 4294967296 < 18446744073709551616 := by
  have hx7 : x7 < 256 := by
    have g : x = 72057594037927936 * x7 + (281474976710656 * b6 + 1099511627776 * b5 + 4294967296 * b4 + 16777216 * b3 + 65536 * b2 + 256 * b1 + b0) := by omega
    omega
  rw [Nat.mod_eq_of_lt hx7] at *
  rw [fold_a x x1 x2 x3 b0 b1 b2 k0 k1 k2 h0 h1 h2, fold_b x x1 x2 x3 x4 x5 x6 x7 b0 b1 b2 b3 b4 b5 b6 k0 k1 k2 k3 k4 k5 k6 h0 h1 h2 h3 h4 h5 h6]
  exact fold_c x x1 x2 x3 x4 x5 x6 x7 b0 b1 b2 b3 b4 b5 b6 k0 k1 k2 k3 k4 k5 k6 h0 h1 h2 h3 h4 h5 h6 h7
/-- Eight small bytes, folded. -/
theorem folded (x : Nat) (hx : x < 18446744073709551616) (h : leD 8 8 8 x) :
    (x + x / 256 + (x + x / 256) / 65536 + (x + x / 256 + (x + x / 256) / 65536) / 4294967296) % 128 = ds 8 8 x ∧ x + x / 256 + (x + x / 256) / 65536 + (x + x / 256 + (x + x / 256) / 65536) / 4294967296 < 18446744073709551616 := by
  rw [ds_eight]
  have e8 : (2 : Nat) ^ 8 = 256 := rfl
  simp only [leD, e8, and_true] at h
  obtain ⟨h0, h1, h2, h3, h4, h5, h6, h7⟩ := h
  exact fold_lin x _ _ _ _ _ _ _ _ _ _ _ _ _ _ (Nat.div_add_mod _ _) (Nat.div_add_mod _ _) (Nat.div_add_mod _ _) (Nat.div_add_mod _ _) (Nat.div_add_mod _ _) (Nat.div_add_mod _ _) (Nat.div_add_mod _ _) h0 h1 h2 h3 h4 h5 h6 h7 hx
theorem step_lt (k : Nat) (hk : 0 < k) : ∀ n x, stepD k n x < 2 ^ (2 * k * n)
  | 0, _ => by simp [stepD]
  | n + 1, x => by
    obtain ⟨h1, h2⟩ := step_low k n x hk
    have ih := step_lt k hk n (x / 2 ^ (2 * k))
    rw [← h2] at ih
    rw [show 2 * k * (n + 1) = 2 * k + 2 * k * n by rw [Nat.mul_add]; omega, Nat.pow_add]
    rw [Nat.mul_comm]
    exact (Nat.div_lt_iff_lt_mul (Nat.two_pow_pos _)).1 ih
/-- How many bits are 1, as the library counts them. -/
def pop3 (x : Nat) : Nat := stepD 4 8 (stepD 2 16 (stepD 1 32 x))
theorem pop3_le (x : Nat) : leD 8 8 8 (pop3 x) := by
  have h1 := le_step 1 1 (by omega) 32 x (le_one _ _)
  have h2 := le_step 2 2 (by omega) 16 _ h1
  exact le_step 4 4 (by omega) 8 _ h2
theorem pop3_lt (x : Nat) : pop3 x < 18446744073709551616 := step_lt 4 (by omega) 8 _
theorem pop3_ds (x : Nat) : ds 8 8 (pop3 x) = ds 1 64 x := by
  rw [pop3]
  exact (ds_step 4 (by omega) 8 _).trans ((ds_step 2 (by omega) 16 _).trans (ds_step 1 (by omega) 32 x))
theorem pop3_sum (x : Nat) : (stepD 2 16 (stepD 1 32 x) / 16 + stepD 2 16 (stepD 1 32 x)) &&& maskD 4 8 = pop3 x := by
  have h1 := le_step 1 1 (by omega) 32 x (le_one _ _)
  have h2 := le_step 2 2 (by omega) 16 _ h1
  rw [and_mask]
  exact low_sum 8 _ h2
theorem masks : maskD 1 32 = 6148914691236517205 ∧ maskD 2 16 = 3689348814741910323 ∧ maskD 4 8 = 1085102592571150095 := by decide
theorem ds_filter : ∀ n x, ((List.range n).filter x.testBit).length = ds 1 n x
  | 0, _ => rfl
  | n + 1, x => by
    have ih := ds_filter n (x / 2)
    rw [List.range_succ_eq_map, List.filter_cons, List.filter_map, ds, show 2 ^ 1 = 2 from rfl, ← ih]
    have e : (x.testBit ∘ Nat.succ) = (x / 2).testBit := by
      funext i
      simp [Function.comp, Nat.testBit_succ]
    rw [e]
    cases h : x.testBit 0 with
    | true =>
      have : x % 2 = 1 := by simpa [Nat.testBit_zero] using h
      simp [this]; omega
    | false =>
      have : x % 2 = 0 := by
        have := Nat.mod_lt x (show 0 < 2 by omega)
        have h2 : ¬ x % 2 = 1 := by simpa [Nat.testBit_zero] using h
        omega
      simp [this]
end Go.Proofs.Ytieinedancdokah
