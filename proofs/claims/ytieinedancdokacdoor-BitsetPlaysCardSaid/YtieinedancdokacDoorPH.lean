/-
  HOW MANY BITS OF A NUMBER ARE 1, by halves, quarters and so on. Mathematics alone.
-/
import Derived.Test.YtieinedancdokacDoorPA
import Derived.Test.YtieinedancdokacDoorPE
namespace Go.Proofs.YtieinedancdokacDoor

/-- The sum of n digits of k bits each. -/
def ds (k : Nat) : Nat → Nat → Nat
  | 0, _ => 0
  | n + 1, x => x % 2 ^ k + ds k n (x / 2 ^ k)
/-- Pairs of digits, added. -/
def stepD (k : Nat) : Nat → Nat → Nat
  | 0, _ => 0
  | n + 1, x => (x % 2 ^ k + x / 2 ^ k % 2 ^ k) + 2 ^ (2 * k) * stepD k n (x / 2 ^ (2 * k))
/-- Each second digit's bits. -/
def maskD (k : Nat) : Nat → Nat
  | 0 => 0
  | n + 1 => (2 ^ k - 1) + 2 ^ (2 * k) * maskD k n
/-- Each second digit alone. -/
def lowD (k : Nat) : Nat → Nat → Nat
  | 0, _ => 0
  | n + 1, x => x % 2 ^ k + 2 ^ (2 * k) * lowD k n (x / 2 ^ (2 * k))
/-- Each digit is at most so great. -/
def leD (k d : Nat) : Nat → Nat → Prop
  | 0, _ => True
  | n + 1, x => x % 2 ^ k ≤ d ∧ leD k d n (x / 2 ^ k)
theorem and_part (j a b c d : Nat) (hc : c < 2 ^ j) (hd : d < 2 ^ j) : (2 ^ j * a + c) &&& (2 ^ j * b + d) = 2 ^ j * (a &&& b) + (c &&& d) := by
  apply Nat.eq_of_testBit_eq
  intro i
  rw [Nat.testBit_and, Nat.testBit_two_pow_mul_add _ hc, Nat.testBit_two_pow_mul_add _ hd, Nat.testBit_two_pow_mul_add _ (Nat.lt_of_le_of_lt Nat.and_le_left hc)]
  by_cases h : i < j
  · simp [h, Nat.testBit_and]
  · simp [h, Nat.testBit_and]
theorem two_mul_pow (k : Nat) : 2 ^ (2 * k) = 2 ^ k * 2 ^ k := by rw [Nat.two_mul, Nat.pow_add]
theorem and_mask (k : Nat) : ∀ n x, x &&& maskD k n = lowD k n x
  | 0, x => by simp [maskD, lowD]
  | n + 1, x => by
    have hp := Nat.two_pow_pos k
    have h2 := two_mul_pow k
    have hle : 2 ^ k ≤ 2 ^ (2 * k) := Nat.pow_le_pow_right (by omega) (by omega)
    have e : x = 2 ^ (2 * k) * (x / 2 ^ (2 * k)) + x % 2 ^ (2 * k) := (Nat.div_add_mod x _).symm
    have hm := and_part (2 * k) (x / 2 ^ (2 * k)) (maskD k n) (x % 2 ^ (2 * k)) (2 ^ k - 1) (Nat.mod_lt _ (Nat.two_pow_pos _)) (by omega)
    rw [← e, Nat.add_comm (2 ^ (2 * k) * maskD k n)] at hm
    rw [maskD, lowD, hm, and_mask k n, Nat.and_two_pow_sub_one_eq_mod, Nat.mod_mod_of_dvd _ (by rw [h2]; exact Nat.dvd_mul_right _ _), Nat.add_comm]
theorem low_add (k : Nat) : ∀ n x, lowD k n (x / 2 ^ k) + lowD k n x = stepD k n x
  | 0, _ => rfl
  | n + 1, x => by
    have e : x / 2 ^ k / 2 ^ (2 * k) = x / 2 ^ (2 * k) / 2 ^ k := by rw [Nat.div_div_eq_div_mul, Nat.div_div_eq_div_mul, Nat.mul_comm]
    have := low_add k n (x / 2 ^ (2 * k))
    rw [lowD, lowD, stepD, e, ← this, Nat.mul_add]
    omega
/-- Two shifts and masks are a step. -/
theorem step_masks (k n x : Nat) : (x / 2 ^ k &&& maskD k n) + (x &&& maskD k n) = stepD k n x := by
  rw [and_mask, and_mask, low_add]
theorem step_low (k n x : Nat) (hk : 0 < k) : stepD k (n + 1) x % 2 ^ (2 * k) = x % 2 ^ k + x / 2 ^ k % 2 ^ k ∧ stepD k (n + 1) x / 2 ^ (2 * k) = stepD k n (x / 2 ^ (2 * k)) := by
  have h2 := two_mul_pow k
  have hp : 2 ≤ 2 ^ k := Nat.pow_le_pow_right (n := 2) (by omega) hk
  have h3 : 2 * 2 ^ k ≤ 2 ^ k * 2 ^ k := Nat.mul_le_mul_right _ hp
  have m1 := Nat.mod_lt x (Nat.two_pow_pos k)
  have m2 := Nat.mod_lt (x / 2 ^ k) (Nat.two_pow_pos k)
  have hlt : x % 2 ^ k + x / 2 ^ k % 2 ^ k < 2 ^ (2 * k) := by omega
  rw [stepD]
  constructor
  · rw [Nat.add_mul_mod_self_left, Nat.mod_eq_of_lt hlt]
  · rw [Nat.add_mul_div_left _ _ (Nat.two_pow_pos _), Nat.div_eq_of_lt hlt, Nat.zero_add]
theorem ds_step (k : Nat) (hk : 0 < k) : ∀ n x, ds (2 * k) n (stepD k n x) = ds k (2 * n) x
  | 0, _ => rfl
  | n + 1, x => by
    obtain ⟨h1, h2⟩ := step_low k n x hk
    rw [ds, h1, h2, ds_step k hk n, show 2 * (n + 1) = 2 * n + 1 + 1 by omega, ds, ds, Nat.div_div_eq_div_mul, ← two_mul_pow]
    omega
theorem le_step (k d : Nat) (hk : 0 < k) : ∀ n x, leD k d (2 * n) x → leD (2 * k) (2 * d) n (stepD k n x)
  | 0, _, _ => trivial
  | n + 1, x, h => by
    obtain ⟨h1, h2⟩ := step_low k n x hk
    rw [show 2 * (n + 1) = 2 * n + 1 + 1 by omega] at h
    obtain ⟨a, b, c⟩ := h
    rw [Nat.div_div_eq_div_mul, ← two_mul_pow] at c
    refine ⟨by rw [h1]; omega, ?_⟩
    rw [h2]
    exact le_step k d hk n _ c
theorem le_one : ∀ n x, leD 1 1 n x
  | 0, _ => trivial
  | n + 1, x => ⟨by have := Nat.mod_lt x (show 0 < 2 ^ 1 by omega); omega, le_one n _⟩
/-- Small digits of four bits each may be added first. -/
theorem low_sum : ∀ n x, leD 4 4 (2 * n) x → lowD 4 n (x / 2 ^ 4 + x) = stepD 4 n x
  | 0, _, _ => rfl
  | n + 1, x, h => by
    rw [show 2 * (n + 1) = 2 * n + 1 + 1 by omega] at h
    obtain ⟨a, b, c⟩ := h
    rw [Nat.div_div_eq_div_mul] at c
    have e2 : (2 : Nat) ^ (2 * 4) = 256 := rfl
    have e3 : (2 : Nat) ^ 4 * 2 ^ 4 = 256 := rfl
    have e4 : (2 : Nat) ^ 4 = 16 := rfl
    rw [e3] at c
    have ih := low_sum n (x / 256) c
    rw [lowD, stepD, e2]
    rw [e4] at ih a b ⊢
    have f1 : (x / 16 + x) % 16 = x % 16 + x / 16 % 16 := by omega
    rw [f1]
    cases n with
    | zero => rfl
    | succ n =>
      have c0 : x / 256 % 16 ≤ 4 := by
        rw [show 2 * (n + 1) = 2 * n + 1 + 1 by omega] at c
        exact c.1
      have f2 : (x / 16 + x) / 256 = x / 256 / 16 + x / 256 := by
        have g1 : x / 16 / 16 = x / 256 := Nat.div_div_eq_div_mul x 16 16
        have g2 := Nat.div_add_mod x 16
        have g3 := Nat.div_add_mod (x / 16) 16
        have g4 := Nat.div_add_mod (x / 256) 16
        rw [g1] at g3
        have hs : x / 16 + x = 256 * (x / 256 / 16 + x / 256) + (16 * (x / 256 % 16) + 17 * (x / 16 % 16) + x % 16) := by omega
        rw [hs, Nat.mul_add_div (by omega), Nat.div_eq_of_lt (a := 16 * (x / 256 % 16) + 17 * (x / 16 % 16) + x % 16) (by omega)]
        omega
      rw [f2, ih]
theorem ds_eight (x : Nat) : ds 8 8 x = x % 256 + (x / 256 % 256 + (x / 256 / 256 % 256 + (x / 256 / 256 / 256 % 256 + (x / 256 / 256 / 256 / 256 % 256 + (x / 256 / 256 / 256 / 256 / 256 % 256 + (x / 256 / 256 / 256 / 256 / 256 / 256 % 256 + x / 256 / 256 / 256 / 256 / 256 / 256 / 256 % 256)))))) := rfl
theorem fold_a (x x1 x2 x3 b0 b1 b2 : Nat) (k0 : 256 * x1 + b0 = x) (k1 : 256 * x2 + b1 = x1) (k2 : 256 * x3 + b2 = x2) (h0 : b0 ≤ 8) (h1 : b1 ≤ 8) (h2 : b2 ≤ 8) : (x + x1) / 65536 = x2 + x3 := by
  have e : x + x1 = 65536 * (x2 + x3) + (256 * b2 + 257 * b1 + b0) := by omega
  rw [e, Nat.mul_add_div (by omega), Nat.div_eq_of_lt (by omega), Nat.add_zero]
theorem fold_b (x x1 x2 x3 x4 x5 x6 x7 b0 b1 b2 b3 b4 b5 b6 : Nat) (k0 : 256 * x1 + b0 = x) (k1 : 256 * x2 + b1 = x1) (k2 : 256 * x3 + b2 = x2) (k3 : 256 * x4 + b3 = x3) (k4 : 256 * x5 + b4 = x4) (k5 : 256 * x6 + b5 = x5) (k6 : 256 * x7 + b6 = x6)
    (h0 : b0 ≤ 8) (h1 : b1 ≤ 8) (h2 : b2 ≤ 8) (h3 : b3 ≤ 8) (h4 : b4 ≤ 8) (h5 : b5 ≤ 8) (h6 : b6 ≤ 8) : (x + x1 + (x2 + x3)) / 4294967296 = x4 + x5 + (x6 + x7) := by
  have e : x + x1 + (x2 + x3) = 4294967296 * (x4 + x5 + (x6 + x7)) + (16777216 * b6 + 16842752 * b5 + 16843008 * b4 + 16843009 * b3 + 65793 * b2 + 257 * b1 + b0) := by omega
  rw [e, Nat.mul_add_div (by omega), Nat.div_eq_of_lt (by omega), Nat.add_zero]
theorem fold_c (x x1 x2 x3 x4 x5 x6 x7 b0 b1 b2 b3 b4 b5 b6 : Nat) (k0 : 256 * x1 + b0 = x) (k1 : 256 * x2 + b1 = x1) (k2 : 256 * x3 + b2 = x2) (k3 : 256 * x4 + b3 = x3) (k4 : 256 * x5 + b4 = x4) (k5 : 256 * x6 + b5 = x5) (k6 : 256 * x7 + b6 = x6)
    (h0 : b0 ≤ 8) (h1 : b1 ≤ 8) (h2 : b2 ≤ 8) (h3 : b3 ≤ 8) (h4 : b4 ≤ 8) (h5 : b5 ≤ 8) (h6 : b6 ≤ 8) (h7 : x7 ≤ 8) : (x + x1 + (x2 + x3) + (x4 + x5 + (x6 + x7))) % 128 = b0 + (b1 + (b2 + (b3 + (b4 + (b5 + (b6 + x7)))))) ∧ x + x1 + (x2 + x3) + (x4 + x5 + (x6 + x7)) < 18446744073709551616 := by
  have l6 : x6 ≤ 2056 := by omega
  have l5 : x5 ≤ 526344 := by omega
  have l4 : x4 ≤ 134744072 := by omega
  have l3 : x3 ≤ 34494482440 := by omega
  have l2 : x2 ≤ 8830587504648 := by omega
  have l1 : x1 ≤ 2260630401189896 := by omega
  have l0 : x ≤ 578721382704613384 := by omega
  refine ⟨?_, by omega⟩
  have e : x + x1 + (x2 + x3) + (x4 + x5 + (x6 + x7)) = 128 * (2 * (x1 + x2 + x3 + x4 + x5 + x6 + x7)) + (b0 + (b1 + (b2 + (b3 + (b4 + (b5 + (b6 + x7))))))) := by omega
  rw [e, Nat.mul_add_mod]
  exact Nat.mod_eq_of_lt (by omega)
theorem fold_lin (x x1 x2 x3 x4 x5 x6 x7 b0 b1 b2 b3 b4 b5 b6 : Nat) (k0 : 256 * x1 + b0 = x) (k1 : 256 * x2 + b1 = x1) (k2 : 256 * x3 + b2 = x2) (k3 : 256 * x4 + b3 = x3) (k4 : 256 * x5 + b4 = x4) (k5 : 256 * x6 + b5 = x5) (k6 : 256 * x7 + b6 = x6)
    (h0 : b0 ≤ 8) (h1 : b1 ≤ 8) (h2 : b2 ≤ 8) (h3 : b3 ≤ 8) (h4 : b4 ≤ 8) (h5 : b5 ≤ 8) (h6 : b6 ≤ 8) (h7 : x7 % 256 ≤ 8) (hx : x < 18446744073709551616) :
    (x + x1 + (x + x1) / 65536 + (x + x1 + (x + x1) / 65536) / 4294967296) % 128 = b0 + (b1 + (b2 + (b3 + (b4 + (b5 + (b6 + x7 % 256)))))) ∧ x + x1 + (x + x1) / 65536 + (x + x1 + (x + x1) / 65536) / 4294967296 < 18446744073709551616 := by
  have hx7 : x7 < 256 := by
    have g : x = 72057594037927936 * x7 + (281474976710656 * b6 + 1099511627776 * b5 + 4294967296 * b4 + 16777216 * b3 + 65536 * b2 + 256 * b1 + b0) := by omega
    omega
  rw [Nat.mod_eq_of_lt hx7] at *
  rw [fold_a x x1 x2 x3 b0 b1 b2 k0 k1 k2 h0 h1 h2, fold_b x x1 x2 x3 x4 x5 x6 x7 b0 b1 b2 b3 b4 b5 b6 k0 k1 k2 k3 k4 k5 k6 h0 h1 h2 h3 h4 h5 h6]
  exact fold_c x x1 x2 x3 x4 x5 x6 x7 b0 b1 b2 b3 b4 b5 b6 k0 k1 k2 k3 k4 k5 k6 h0 h1 h2 h3 h4 h5 h6 h7
/-- Eight small bytes, folded. -/
theorem folded (x : Nat) (hx : x < 18446744073709551616) (h : leD 8 8 8 x) :
    (x + x / 256 + (x + x / 256) / 65536 + (x + x / 256 + (x + x / 256) / 65536) / 4294967296) % 128 = ds 8 8 x ∧ x + x / 256 + (x + x / 256) / 65536 + (x + x / 256 + (x + x / 256) / 65536) / 4294967296 < 18446744073709551616 := by
  rw [ds_eight]
  have e8 : (2 : Nat) ^ 8 = 256 := rfl
  simp only [leD, e8, and_true] at h
  obtain ⟨h0, h1, h2, h3, h4, h5, h6, h7⟩ := h
  exact fold_lin x _ _ _ _ _ _ _ _ _ _ _ _ _ _ (Nat.div_add_mod _ _) (Nat.div_add_mod _ _) (Nat.div_add_mod _ _) (Nat.div_add_mod _ _) (Nat.div_add_mod _ _) (Nat.div_add_mod _ _) (Nat.div_add_mod _ _) h0 h1 h2 h3 h4 h5 h6 h7 hx
theorem step_lt (k : Nat) (hk : 0 < k) : ∀ n x, stepD k n x < 2 ^ (2 * k * n)
  | 0, _ => by simp [stepD]
  | n + 1, x => by
    obtain ⟨h1, h2⟩ := step_low k n x hk
    have ih := step_lt k hk n (x / 2 ^ (2 * k))
    rw [← h2] at ih
    rw [show 2 * k * (n + 1) = 2 * k + 2 * k * n by rw [Nat.mul_add]; omega, Nat.pow_add]
    rw [Nat.mul_comm]
    exact (Nat.div_lt_iff_lt_mul (Nat.two_pow_pos _)).1 ih
/-- How many bits are 1, as the library counts them. -/
def pop3 (x : Nat) : Nat := stepD 4 8 (stepD 2 16 (stepD 1 32 x))
theorem pop3_le (x : Nat) : leD 8 8 8 (pop3 x) := by
  have h1 := le_step 1 1 (by omega) 32 x (le_one _ _)
  have h2 := le_step 2 2 (by omega) 16 _ h1
  exact le_step 4 4 (by omega) 8 _ h2
theorem pop3_lt (x : Nat) : pop3 x < 18446744073709551616 := step_lt 4 (by omega) 8 _
theorem pop3_ds (x : Nat) : ds 8 8 (pop3 x) = ds 1 64 x := by
  rw [pop3]
  exact (ds_step 4 (by omega) 8 _).trans ((ds_step 2 (by omega) 16 _).trans (ds_step 1 (by omega) 32 x))
theorem pop3_sum (x : Nat) : (stepD 2 16 (stepD 1 32 x) / 16 + stepD 2 16 (stepD 1 32 x)) &&& maskD 4 8 = pop3 x := by
  have h1 := le_step 1 1 (by omega) 32 x (le_one _ _)
  have h2 := le_step 2 2 (by omega) 16 _ h1
  rw [and_mask]
  exact low_sum 8 _ h2
theorem masks : maskD 1 32 = 6148914691236517205 ∧ maskD 2 16 = 3689348814741910323 ∧ maskD 4 8 = 1085102592571150095 := by decide
theorem ds_filter : ∀ n x, ((List.range n).filter x.testBit).length = ds 1 n x
  | 0, _ => rfl
  | n + 1, x => by
    have ih := ds_filter n (x / 2)
    rw [List.range_succ_eq_map, List.filter_cons, List.filter_map, ds, show 2 ^ 1 = 2 from rfl, ← ih]
    have e : (x.testBit ∘ Nat.succ) = (x / 2).testBit := by
      funext i
      simp [Function.comp, Nat.testBit_succ]
    rw [e]
    cases h : x.testBit 0 with
    | true =>
      have : x % 2 = 1 := by simpa [Nat.testBit_zero] using h
      simp [this]; omega
    | false =>
      have : x % 2 = 0 := by
        have := Nat.mod_lt x (show 0 < 2 by omega)
        have h2 : ¬ x % 2 = 1 := by simpa [Nat.testBit_zero] using h
        omega
      simp [this]
end Go.Proofs.YtieinedancdokacDoor
/-
  HOW MANY BITS OF A NUMBER ARE 1, by contract.
-/
namespace Go.Proofs.YtieinedancdokacDoor
open Go.ChangeShapes Go.WideShapes Go.ChangeAt Go.RowKit

theorem wrap_nat (n : Nat) (h : n < 18446744073709551616) : IntKind.u64.wrap (n : Int) = (n : Int) := IntWalk.u64_in _ (by omega)
theorem add_cong {a b c d : Int} (h1 : a = b) (h2 : c = d) : a + c = b + d := by rw [h1, h2]
theorem le_bound : ∀ n x, x < 2 ^ (4 * n) → leD 4 4 n x → x * 15 ≤ 4 * (2 ^ (4 * n) - 1)
  | 0, x, h, _ => by simp at h; omega
  | n + 1, x, h, hl => by
    obtain ⟨h1, h2⟩ := hl
    rw [show (2 : Nat) ^ 4 = 16 from rfl] at h1 h2
    rw [show 4 * (n + 1) = 4 * n + 4 by omega, Nat.pow_add, show (2 : Nat) ^ 4 = 16 from rfl] at h ⊢
    have hp := Nat.two_pow_pos (4 * n)
    have ih := le_bound n (x / 16)
    generalize 2 ^ (4 * n) = P at *
    have := ih (by omega) h2
    omega
theorem pop_e1 (x : Nat) (hx : x < 18446744073709551616) : IntKind.u64.wrap (bits BinOp.and IntKind.u64 ((x : Int) / 2) 6148914691236517205 + bits BinOp.and IntKind.u64 (x : Int) 6148914691236517205) = ((stepD 1 32 x : Nat) : Int) := by
  have h1 := u64_and_nat (x / 2) 6148914691236517205 (by omega) (by omega)
  have h2 := u64_and_nat x 6148914691236517205 hx (by omega)
  have h3 := step_masks 1 32 x
  have h4 := step_lt 1 (by omega) 32 x
  rw [masks.1] at h3
  rw [show (x : Int) / 2 = ((x / 2 : Nat) : Int) by omega]
  refine (congrArg IntKind.u64.wrap (add_cong h1 h2)).trans ?_
  show IntKind.u64.wrap (((x / 2 &&& 6148914691236517205 : Nat) : Int) + ((x &&& 6148914691236517205 : Nat) : Int)) = _
  rw [← Int.natCast_add, ← h3]
  exact wrap_nat _ (by rw [show x / 2 = x / 2 ^ 1 from rfl, h3]; exact h4)
theorem pop_e2 (x : Nat) (hx : x < 18446744073709551616) : IntKind.u64.wrap (bits BinOp.and IntKind.u64 ((x : Int) / 4) 3689348814741910323 + bits BinOp.and IntKind.u64 (x : Int) 3689348814741910323) = ((stepD 2 16 x : Nat) : Int) := by
  have h1 := u64_and_nat (x / 4) 3689348814741910323 (by omega) (by omega)
  have h2 := u64_and_nat x 3689348814741910323 hx (by omega)
  have h3 := step_masks 2 16 x
  have h4 := step_lt 2 (by omega) 16 x
  rw [masks.2.1] at h3
  rw [show (x : Int) / 4 = ((x / 4 : Nat) : Int) by omega]
  refine (congrArg IntKind.u64.wrap (add_cong h1 h2)).trans ?_
  show IntKind.u64.wrap (((x / 4 &&& 3689348814741910323 : Nat) : Int) + ((x &&& 3689348814741910323 : Nat) : Int)) = _
  rw [← Int.natCast_add, ← h3]
  exact wrap_nat _ (by rw [show x / 4 = x / 2 ^ 2 from rfl, h3]; exact h4)
theorem pop_e3 (x y : Nat) (hy : y = stepD 2 16 (stepD 1 32 x)) : bits BinOp.and IntKind.u64 (IntKind.u64.wrap ((y : Int) / 16 + (y : Int))) 1085102592571150095 = ((pop3 x : Nat) : Int) := by
  have h4 := step_lt 2 (by omega) 16 (stepD 1 32 x)
  have h5 := le_step 2 2 (by omega) 16 _ (le_step 1 1 (by omega) 32 x (le_one _ _))
  rw [← hy] at h4 h5
  have h6 := pop3_sum x
  rw [← hy, masks.2.2] at h6
  have h7 : y / 16 + y < 18446744073709551616 := by
    have hb := le_bound 16 y h4 h5
    have e64 : (2 : Nat) ^ (4 * 16) = 18446744073709551616 := by decide
    rw [e64] at hb
    omega
  have h1 := u64_and_nat (y / 16 + y) 1085102592571150095 h7 (by omega)
  rw [show (y : Int) / 16 + (y : Int) = ((y / 16 + y : Nat) : Int) by omega, wrap_nat _ h7]
  exact h1.trans (by rw [h6])
theorem low7 (c d : Nat) (h : c % 128 = d) : bits BinOp.and IntKind.i64 (wrap64 (c : Int)) 127 = (d : Int) := by
  rw [i64_and127]
  unfold wrap64
  omega
theorem fold1 (y k : Nat) (h : y + y / k < 18446744073709551616) : IntKind.u64.wrap ((y : Int) + (y : Int) / (k : Int)) = ((y + y / k : Nat) : Int) := by
  rw [← Int.natCast_ediv, ← Int.natCast_add]; exact wrap_nat _ h
set_option maxHeartbeats 800000 in
theorem pop_c (x : Nat) (w : World) (hx : x < 18446744073709551616) : Calls Tryd.prog 27 #[.int .u64 (x : Int)] w fun e w' => e = .returned (.int .i64 ((ds 1 64 x : Nat) : Int)) ∧ w' = w := by
  have hx1 : (x : Int) < 18446744073709551616 := by omega
  go_enter Tryd.func27, Tryd.ntmps27
  go_wp2
  go_ret
  rw [pop_e1 x hx, pop_e2 _ (step_lt 1 (by omega) 32 x), pop_e3 x _ rfl]
  have h1 := pop3_lt x
  have h2 := folded _ h1 (pop3_le x)
  rw [pop3_ds] at h2
  generalize pop3 x = y at *
  obtain ⟨h2, h3⟩ := h2
  have l2 : y + y / 256 + (y + y / 256) / 65536 < 18446744073709551616 := Nat.lt_of_le_of_lt (Nat.le_add_right _ _) h3
  have l1 : y + y / 256 < 18446744073709551616 := Nat.lt_of_le_of_lt (Nat.le_add_right _ _) l2
  have q1 : IntKind.u64.wrap ((y : Int) + (y : Int) / 256) = ((y + y / 256 : Nat) : Int) := fold1 y 256 l1
  rw [q1]
  generalize y + y / 256 = a at *
  have q2 : IntKind.u64.wrap ((a : Int) + (a : Int) / 65536) = ((a + a / 65536 : Nat) : Int) := fold1 a 65536 l2
  rw [q2]
  generalize a + a / 65536 = b at *
  have q3 : IntKind.u64.wrap ((b : Int) + (b : Int) / 4294967296) = ((b + b / 4294967296 : Nat) : Int) := fold1 b 4294967296 h3
  rw [q3]
  generalize b + b / 4294967296 = c at *
  have q4 := low7 c _ h2
  rw [q4]
  exact ⟨rfl, rfl⟩
set_option maxHeartbeats 800000 in
theorem countE_c (x : Nat) (w : World) (hx : x < 18446744073709551616) : Calls Tryd.prog 24 #[.int .u64 (x : Int)] w fun e w' => e = .returned (.int .i64 ((ds 1 64 x : Nat) : Int)) ∧ w' = w := by
  have ho := pop_c x w hx
  generalize ds 1 64 x = c at *
  go_enter Tryd.func24, Tryd.ntmps24
  go_wp2_with fail
  refine ho.mono ?_
  rintro e w' ⟨rfl, rfl⟩
  clear ho
  go_wp2
  go_ret
  exact ⟨rfl, rfl⟩
end Go.Proofs.YtieinedancdokacDoor
/-
  HOW MANY NUMBERS A SET HAS, exactly: by contract.
-/
namespace Go.Proofs.YtieinedancdokacDoor
open Go.ChangeShapes Go.WideShapes Go.ChangeAt Go.RowKit

set_option maxHeartbeats 800000 in
theorem lenT_c (b : Nat) (g : Option Nat) (ws : List Nat) (w : World) (hf : Fit ws) (h : SetAt w b g ws) : Calls Tryd.prog 13 #[.pointer (some ⟨b, 0, none⟩)] w fun e w' =>
    e = .returned (.int .i64 (((told ws ws.length).length : Nat) : Int)) ∧ w' = w := by
  have hw := wide_c b g ws w h
  have c0 := h.cell0
  have hlen := hf.short
  have htl := told_len ws
  have hts : Hid (∀ j, (told ws (j + 1)).length = (told ws j).length + ds 1 64 (ws.getD j 0)) := fun j => by
    rw [told, List.length_append, List.length_map, bitsL, ds_filter]
  have hc : Hid (∀ j w, Calls Tryd.prog 24 #[.int .u64 ((ws.getD j 0 : Nat) : Int)] w fun e w' => e = .returned (.int .i64 ((ds 1 64 (ws.getD j 0) : Nat) : Int)) ∧ w' = w) := fun j w => countE_c _ w (hf.at j)
  obtain ⟨tl, htl0⟩ : ∃ tl : Nat → Nat, Hid (∀ j, tl j = (told ws j).length) := ⟨fun j => (told ws j).length, (fun _ => rfl : ∀ _, _ = _)⟩
  have htl1 : Hid (∀ j, tl j ≤ 64 * j) := fun j => by rw [htl0.out]; exact htl j
  have hts1 : Hid (∀ j, tl (j + 1) = tl j + ds 1 64 (ws.getD j 0)) := fun j => by rw [htl0.out, htl0.out]; exact hts.out j
  have h00 : Hid (tl 0 = 0) := by show _ = _; rw [htl0.out]; rfl
  rw [← htl0.out]
  clear htl hts htl0
  have h := hidden h
  go_enter Tryd.func13, Tryd.ntmps13
  go_wp2_with fail
  refine hw.mono ?_
  rintro e w' ⟨rfl, rfl⟩
  clear hw
  go_wp2_with fail
  go_loop [3, 7] (fun u i => ∃ j : Nat, j ≤ ws.length ∧ u = .int .i64 (tl j : Nat) ∧ i = .int .i64 j) (fun _ i => ws.length - (intOf i).toNat)
  case atStart => exact ⟨0, Nat.zero_le _, by rw [h00.out]; rfl, rfl⟩
  case round =>
    obtain ⟨j, hj, rfl, rfl⟩ := hrel
    by_cases hlt : j < ws.length
    · have hj1 : (j : Int) < (ws.length : Int) := by omega
      cases g with
      | none => have hn := h.out.empty rfl; subst hn; simp at hlt
      | some g =>
        simp only [rowV] at c0
        have c1 := h.out.cell j hlt
        have hcj := hc.out j
        have hs : Hid (tl (j + 1) = tl j + ds 1 64 (ws.getD j 0)) := hts1.out j
        have hb := htl1.out (j + 1)
        generalize ds 1 64 (ws.getD j 0) = d at *
        generalize ws.getD j 0 = x at *
        have hb2 : tl j + d ≤ 65536 := by rw [hs.out] at hb; omega
        have e4 : wrap64 ((tl j : Int) + (d : Int)) = (tl j : Int) + (d : Int) := by rw [IntWalk.wrap64_in] <;> omega
        clear hb
        go_wp2_with fail
        refine (hcj _).mono ?_
        rintro e w' ⟨rfl, rfl⟩
        clear hc hcj hts1 htl1
        go_wp2
        go_round
        case rel => exact ⟨j + 1, by omega, by rw [hs.out]; go_num, by go_num⟩
        case measure => simp [intOf]; omega
    · have hj1 : ¬ (j : Int) < (ws.length : Int) := by omega
      obtain rfl : j = ws.length := by omega
      clear hc hts1 htl1
      go_wp2
      go_ret
      exact ⟨rfl, rfl⟩
theorem lenE_c (b : Nat) (g : Option Nat) (ws : List Nat) (p : Nat → Bool) (w : World) (hf : Fit ws) (hp : ∀ k, has ws k = p k) (h : SetAt w b g ws) : Calls Tryd.prog 13 #[.pointer (some ⟨b, 0, none⟩)] w fun e w' =>
    e = .returned (.int .i64 (((L p).length : Nat) : Int)) ∧ Below w.heap.size w w' := by
  refine (lenT_c b g ws w hf h).mono ?_
  rintro e w' ⟨rfl, rfl⟩
  rw [told_L ws hf, L_congr hp]
  exact ⟨rfl, Below.refl _ _⟩
end Go.Proofs.YtieinedancdokacDoor
