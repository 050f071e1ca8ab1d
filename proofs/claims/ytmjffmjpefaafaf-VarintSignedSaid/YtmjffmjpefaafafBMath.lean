/-
  NUMBERS AND THEIR BITS: plain facts on whole numbers. No program is named here.
-/
import Derived.Laws.BitsAllLaws
import Derived.Laws.BitsLemmas
import Derived.Lib.Zigzag
import Derived.WalkKit
namespace BitsMath
open Go Go.RowKit

theorem bits_xor_comm (k : IntKind) (a b : Int) : bits .xor k a b = bits .xor k b a := by
  simp only [bits, BitVec.xor_comm]

def zz (n : Int) : Int := if n < 0 then -2 * n - 1 else 2 * n
def zg (u : Int) : Int := if u % 2 = 1 then -(u / 2) - 1 else u / 2

theorem zz_zg {u : Int} (h : 0 ≤ u) : zz (zg u) = u := by unfold zz zg; split <;> split <;> omega
theorem zg_zz (n : Int) : zg (zz n) = n := by unfold zz zg; split <;> split <;> omega
theorem zz_range {n : Int} (h0 : -9223372036854775808 ≤ n) (h1 : n ≤ 9223372036854775807) : 0 ≤ zz n ∧ zz n ≤ 18446744073709551615 := by unfold zz; split <;> omega
theorem zg_range {u : Int} (h0 : 0 ≤ u) (h1 : u ≤ 18446744073709551615) : -9223372036854775808 ≤ zg u ∧ zg u ≤ 9223372036854775807 := by unfold zg; split <;> omega

theorem xor_zero_u64 {x : Int} (h0 : 0 ≤ x) (h1 : x < 18446744073709551616) : bits .xor .u64 x 0 = x := by
  rw [Go.u64_xor x 0 h0 h1 (by decide) (by decide)]
  simp; omega

theorem zig_eq {n : Int} (h0 : -9223372036854775808 ≤ n) (h1 : n ≤ 9223372036854775807) :
    bits .xor .u64 (IntKind.u64.wrap (IntKind.u64.wrap n * 2)) (IntKind.u64.wrap (n / 9223372036854775808)) = zz n := by
  by_cases hn : n < 0
  · have e : n / 9223372036854775808 = -1 := by omega
    have em : IntKind.u64.wrap (-1) = IntKind.u64.max := by decide
    rw [e, em, bits_xor_comm, Lib.zigzag_neg h0 hn]
    unfold Lib.zigzag zz
    rw [if_neg (by omega), if_pos hn]; omega
  · have e : n / 9223372036854775808 = 0 := by omega
    have e0 : IntKind.u64.wrap 0 = 0 := by decide
    have e1 : IntKind.u64.wrap (IntKind.u64.wrap n * 2) = n * 2 := by
      rw [IntKind.wrap_u64, IntKind.wrap_u64]; omega
    rw [e, e0, e1, xor_zero_u64 (by omega) (by omega)]
    unfold zz; rw [if_neg hn]; omega
theorem zag_eq {u : Int} (h0 : 0 ≤ u) (h1 : u ≤ 18446744073709551615) :
    bits .xor .i64 (u / 2) (wrap64 (-wrap64 (bits .and .u64 u 1))) = zg u := by
  rw [Lib.u64_and1 u h0 (by omega)]
  have : u % 2 = 0 ∨ u % 2 = 1 := by omega
  rcases this with h | h
  · have e2 : wrap64 (-wrap64 0) = 0 := by unfold wrap64; omega
    rw [h, e2]
    have e3 : bits .xor .i64 (u / 2) 0 = u / 2 := by
      obtain ⟨m, hm⟩ : ∃ m : Nat, u / 2 = (m : Int) := ⟨(u / 2).toNat, by omega⟩
      rw [hm]
      show IntKind.i64.wrap ((BitVec.ofInt 64 (m : Int) ^^^ BitVec.ofInt 64 0).toNat : Int) = _
      have h2 : (BitVec.ofInt 64 (m : Int)).toNat = m := by
        rw [BitVec.ofInt_natCast, BitVec.toNat_ofNat]; exact Nat.mod_eq_of_lt (by omega)
      have h3 : (BitVec.ofInt 64 0).toNat = 0 := by decide
      rw [BitVec.toNat_xor, h2, h3, Nat.xor_zero, IntKind.wrap_i64]; omega
    rw [e3]; unfold zg; rw [if_neg (by omega)]
  · have e2 : wrap64 (-wrap64 1) = -1 := by unfold wrap64; omega
    rw [h, e2, bits_xor_comm]
    obtain ⟨m, hm⟩ : ∃ m : Nat, u / 2 = (m : Int) := ⟨(u / 2).toNat, by omega⟩
    rw [hm, Lib.i64_not m (by omega), ← hm]
    unfold zg; rw [if_pos h]

theorem ret_int {k : IntKind} {a b : Int} (h : a = b) : Ending.returned (.int k a) = Ending.returned (.int k b) := by rw [h]
theorem ret_bool {a b : Bool} (h : a = b) : Ending.returned (.bool a) = Ending.returned (.bool b) := by rw [h]

/-! ### Powers of two -/
def pw (k : Nat) : Int := ((2 ^ k : Nat) : Int)
theorem pw_zero : pw 0 = 1 := rfl
theorem pw_succ (k : Nat) : pw (k + 1) = 2 * pw k := by unfold pw; rw [Nat.pow_succ]; push_cast; omega
theorem pw_pos (k : Nat) : 1 ≤ pw k := by unfold pw; have := Nat.pow_pos (n := k) (a := 2) (by decide); omega
theorem pw_le (j k : Nat) (h : j ≤ k) : pw j ≤ pw k := by unfold pw; have := Nat.pow_le_pow_right (n := 2) (by decide) h; omega
theorem pw_add (j k : Nat) : pw (j + k) = pw j * pw k := by unfold pw; rw [Nat.pow_add]; push_cast; rfl

/-! ### So many bits -/
def clamp (n l m : Int) : Int := max l (min n m)
theorem clamp_lo (n l m : Int) : l ≤ clamp n l m := by unfold clamp; omega
theorem clamp_hi (n : Int) {l m : Int} (h : l ≤ m) : clamp n l m ≤ m := by unfold clamp; omega
def cutZ (n : Int) (w : Nat) : Int := if pw (w - 1) ≤ n % pw w then n % pw w - pw w else n % pw w
def fitB (n : Int) (w : Nat) : Bool := decide (cutZ n w = n)
theorem int_pow (k : Nat) : (2 : Int) ^ k = pw k := by unfold pw; push_cast; rfl
theorem pw_half {w : Nat} (h : 1 ≤ w) : pw w = 2 * pw (w - 1) := by
  obtain ⟨v, rfl⟩ : ∃ v, w = v + 1 := ⟨w - 1, by omega⟩
  exact pw_succ v
theorem pw63 : pw 63 = 9223372036854775808 := by decide
theorem pw64 : pw 64 = 18446744073709551616 := by decide
theorem pw62 : pw 62 = 4611686018427387904 := by decide

theorem cut_eq (n : Int) {w : Nat} (h1 : 1 ≤ w) (h2 : w ≤ 64) : wrap64 (n * pw (64 - w)) / pw (64 - w) = cutZ n w := by
  have hq := pw_half h1
  have hp1 := pw_pos (64 - w)
  have hq1 := pw_pos (w - 1)
  have hpq : pw (64 - w) * pw (w - 1) = 9223372036854775808 := by rw [← pw_add, show 64 - w + (w - 1) = 63 by omega, pw63]
  unfold cutZ
  rw [hq]
  generalize pw (64 - w) = p at *
  generalize pw (w - 1) = q at *
  have hm0 := Int.emod_nonneg n (show (2 * q) ≠ 0 by omega)
  have hm1 := Int.emod_lt_of_pos n (show 0 < 2 * q by omega)
  have hn := Int.emod_add_mul_ediv n (2 * q)
  generalize n % (2 * q) = m at *
  generalize n / (2 * q) = t at *
  have e : n * p = m * p + 18446744073709551616 * t := by
    have h8 : 2 * q * t * p = 2 * (p * q) * t := by ac_rfl
    rw [← hn, Int.add_mul, h8, hpq]; omega
  rw [e]
  have hX0 : 0 ≤ m * p := Int.mul_nonneg hm0 (by omega)
  by_cases hc : q ≤ m
  · rw [if_pos hc]
    have h3 : q * p ≤ m * p := Int.mul_le_mul_of_nonneg_right hc (by omega)
    have h4 : (m + 1) * p ≤ 2 * q * p := Int.mul_le_mul_of_nonneg_right (by omega) (by omega)
    have h5 : 2 * q * p = 18446744073709551616 := by
      have h8 : 2 * q * p = 2 * (p * q) := by ac_rfl
      rw [h8, hpq]; rfl
    have h6 : q * p = 9223372036854775808 := by rw [Int.mul_comm, hpq]
    have h7 : (m + 1) * p = m * p + p := by rw [Int.add_mul, Int.one_mul]
    have e2 : wrap64 (m * p + 18446744073709551616 * t) = m * p - 18446744073709551616 := by unfold wrap64; omega
    rw [e2, ← h5, ← Int.sub_mul, Int.mul_ediv_cancel _ (by omega)]
  · rw [if_neg hc]
    have h4 : (m + 1) * p ≤ q * p := Int.mul_le_mul_of_nonneg_right (by omega) (by omega)
    have h6 : q * p = 9223372036854775808 := by rw [Int.mul_comm, hpq]
    have h7 : (m + 1) * p = m * p + p := by rw [Int.add_mul, Int.one_mul]
    have e2 : wrap64 (m * p + 18446744073709551616 * t) = m * p := by unfold wrap64; omega
    rw [e2, Int.mul_ediv_cancel _ (by omega)]

theorem cutZ_range (n : Int) {w : Nat} (h1 : 1 ≤ w) : -pw (w - 1) ≤ cutZ n w ∧ cutZ n w < pw (w - 1) := by
  have hq := pw_half h1
  have hq1 := pw_pos (w - 1)
  unfold cutZ
  rw [hq]
  generalize pw (w - 1) = q at *
  have hm0 := Int.emod_nonneg n (show (2 * q) ≠ 0 by omega)
  have hm1 := Int.emod_lt_of_pos n (show 0 < 2 * q by omega)
  split <;> omega
theorem cutZ_self {n : Int} {w : Nat} (h1 : 1 ≤ w) (h2 : -pw (w - 1) ≤ n) (h3 : n < pw (w - 1)) : cutZ n w = n := by
  have hq := pw_half h1
  unfold cutZ
  rw [hq]
  generalize pw (w - 1) = q at *
  by_cases hn : 0 ≤ n
  · rw [Int.emod_eq_of_lt hn (by omega), if_neg (by omega)]
  · have e : n % (2 * q) = n + 2 * q := by
      rw [← Int.add_emod_right, Int.emod_eq_of_lt (by omega) (by omega)]
    rw [e, if_pos (by omega)]; omega
theorem fitB_eq (n : Int) {w : Nat} (h1 : 1 ≤ w) : fitB n w = decide (-pw (w - 1) ≤ n ∧ n < pw (w - 1)) := by
  unfold fitB
  by_cases h : -pw (w - 1) ≤ n ∧ n < pw (w - 1)
  · rw [decide_eq_true (cutZ_self h1 h.1 h.2), decide_eq_true h]
  · have h' : ¬ cutZ n w = n := fun e => h (by have := cutZ_range n h1; rwa [e] at this)
    rw [decide_eq_false h', decide_eq_false h]
theorem fitB_cut (n : Int) {w : Nat} (h1 : 1 ≤ w) : fitB (cutZ n w) w = true := by
  unfold fitB
  have := cutZ_range n h1
  exact decide_eq_true (cutZ_self h1 this.1 this.2)
theorem pw_ge (j k : Nat) (h : j ≤ k) : pw j ≤ pw k := pw_le j k h

/-! ### Counts, and pairs -/
def most : Int := 4611686018427387904
def addS (a b : Int) : Int := min (min a 4611686018427387904 + min b 4611686018427387904) 4611686018427387904
def mulS (a b : Int) : Int := min (min a 4611686018427387904 * min b 4611686018427387904) 4611686018427387904
theorem addS_comm (a b : Int) : addS a b = addS b a := by unfold addS; omega
theorem mulS_comm (a b : Int) : mulS a b = mulS b a := by unfold mulS; rw [Int.mul_comm]
theorem mul_nat (x y : Nat) :
    (0 < ((x * y / 18446744073709551616 : Nat) : Int) → 4611686018427387904 = min ((x : Int) * y) 4611686018427387904) ∧
    (¬ 0 < ((x * y / 18446744073709551616 : Nat) : Int) → min ((x * y % 18446744073709551616 : Nat) : Int) 4611686018427387904 = min ((x : Int) * y) 4611686018427387904) := by
  have e : (x : Int) * y = ((x * y : Nat) : Int) := by push_cast; rfl
  rw [e]
  generalize x * y = z
  constructor <;> intro h <;> omega
theorem div_gt {x y : Int} (hy : 0 < y) (h : 4611686018427387904 / y < x) : 4611686018427387904 < x * y := by
  have := Int.lt_mul_of_ediv_lt hy h
  exact this
theorem div_le {x y : Int} (hy : 0 < y) (h : x ≤ 4611686018427387904 / y) : x * y ≤ 4611686018427387904 := Int.mul_le_of_le_ediv hy h

theorem pack_eq {a b : Int} (h0 : 0 ≤ a) (h1 : a ≤ 4294967295) (h2 : 0 ≤ b) (h3 : b ≤ 4294967295) : bits .or .u64 (a * 4294967296) b = a * 4294967296 + b := by
  rw [Go.u64_or _ _ (by omega) (by omega) (by omega) (by omega)]
  have hj := nat_join 32 (a * 4294967296).toNat b.toNat (by omega) (by omega)
  rw [hj]; omega
end BitsMath
