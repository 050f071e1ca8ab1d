/-
  PRODUCTS THAT GROW NO FURTHER: bits.Times and the reference's Times, by contract.
-/
import Derived.Test.YthjmgahgfkecfabTMath
import Derived.Test.YthjmgahgfkecfabRows1
import Derived.Test.YthjmgahgfkecfabShelf
namespace Go.Proofs.Ythjmgahgfkecfab
open Go.ChangeShapes Go.WideShapes Go.ChangeAt Go.RowKit

theorem atMost_c (u : Int) (w : World) : Calls Try.prog 26 #[.int .u64 u] w fun e w' => e = .returned (.int .u64 (min u 4611686018427387904)) ∧ w' = w := by
  go_enter Try.func26, Try.ntmps26
  go_wp2
  all_goals go_ret
  all_goals exact ⟨ret_int (by omega), rfl⟩
theorem top_c (u : Int) (w : World) : Calls Try.prog 18 #[.int .u64 u] w fun e w' => e = .returned (.int .u64 (min u 4611686018427387904)) ∧ w' = w := by
  go_enter Try.func18, Try.ntmps18
  go_wp2
  all_goals go_ret
  all_goals exact ⟨ret_int (by omega), rfl⟩
set_option maxRecDepth 100000 in
theorem times_c {a b : Int} (h0 : 0 ≤ a) (_ : a ≤ 18446744073709551615) (h2 : 0 ≤ b) (_ : b ≤ 18446744073709551615) (w : World) :
    Calls Try.prog 17 #[.int .u64 a, .int .u64 b] w fun e w' => e = .returned (.int .u64 (mulS a b)) ∧ w' = w := by
  unfold mulS
  have hm := fun (w : World) => atMost_c a w
  have hn := fun (w : World) => atMost_c b w
  obtain ⟨x, hx⟩ := Int.eq_ofNat_of_zero_le (show 0 ≤ min a 4611686018427387904 by omega)
  obtain ⟨y, hy⟩ := Int.eq_ofNat_of_zero_le (show 0 ≤ min b 4611686018427387904 by omega)
  rw [hx] at hm ⊢
  rw [hy] at hn ⊢
  have hxx : x ≤ 4611686018427387904 := by omega
  have hyy : y ≤ 4611686018427387904 := by omega
  clear hx hy
  have hmul := fun (w : World) => Try.bits_Mul64 x y (by omega) (by omega) w
  obtain ⟨f1, f2⟩ := mul_nat x y
  have hge : (0 : Int) ≤ ((x * y / 18446744073709551616 : Nat) : Int) := by omega
  generalize ((x * y / 18446744073709551616 : Nat) : Int) = hi at *
  generalize ((x * y % 18446744073709551616 : Nat) : Int) = lo at *
  generalize min ((x : Int) * y) 4611686018427387904 = r at *
  by_cases hh : 0 < hi
  · have hr := f1 hh
    subst hr
    clear f1 f2
    go_enter Try.func17, Try.ntmps17
    go_wp2_with (first
      | (go_at_call 26; refine (hm _).mono ?_; rintro e w' ⟨rfl, rfl⟩)
      | (go_at_call 26; refine (hn _).mono ?_; rintro e w' ⟨rfl, rfl⟩)
      | (go_at_call 25; refine (hmul _).mono ?_; rintro e w' ⟨rfl, rfl⟩))
    go_ret
    exact ⟨rfl, rfl⟩
  · have hr := f2 hh
    have hl := fun (w : World) => atMost_c lo w
    rw [hr] at hl
    clear f1 f2 hr
    obtain rfl : hi = 0 := by omega
    go_enter Try.func17, Try.ntmps17
    go_wp2_with (first
      | (go_at_call 26; refine (hm _).mono ?_; rintro e w' ⟨rfl, rfl⟩)
      | (go_at_call 26; refine (hn _).mono ?_; rintro e w' ⟨rfl, rfl⟩)
      | (go_at_call 26; refine (hl _).mono ?_; rintro e w' ⟨rfl, rfl⟩)
      | (go_at_call 25; refine (hmul _).mono ?_; rintro e w' ⟨rfl, rfl⟩))
    go_ret
    exact ⟨rfl, rfl⟩
set_option maxRecDepth 100000 in
theorem rtimes_c {a b : Int} (h0 : 0 ≤ a) (_ : a ≤ 18446744073709551615) (h2 : 0 ≤ b) (_ : b ≤ 18446744073709551615) (w : World) :
    Calls Try.prog 11 #[.int .u64 a, .int .u64 b] w fun e w' => e = .returned (.int .u64 (mulS a b)) ∧ w' = w := by
  unfold mulS
  have hm := fun (w : World) => top_c a w
  have hn := fun (w : World) => top_c b w
  have x0 : 0 ≤ min a 4611686018427387904 := by omega
  have y0 : 0 ≤ min b 4611686018427387904 := by omega
  have x1 : min a 4611686018427387904 ≤ 4611686018427387904 := by omega
  have y1 : min b 4611686018427387904 ≤ 4611686018427387904 := by omega
  generalize min a 4611686018427387904 = x at *
  generalize min b 4611686018427387904 = y at *
  by_cases hx : x = 0
  · subst hx
    have e : min (0 * y) 4611686018427387904 = 0 := by rw [Int.zero_mul]; decide
    rw [e]
    clear e
    go_enter Try.func11, Try.ntmps11
    go_wp2_with (first
      | (go_at_call 18; refine (hm _).mono ?_; rintro e w' ⟨rfl, rfl⟩)
      | (go_at_call 18; refine (hn _).mono ?_; rintro e w' ⟨rfl, rfl⟩))
    go_ret
    exact ⟨rfl, rfl⟩
  · by_cases hy : y = 0
    · subst hy
      have e : min (x * 0) 4611686018427387904 = 0 := by rw [Int.mul_zero]; decide
      rw [e]
      clear e
      go_enter Try.func11, Try.ntmps11
      go_wp2_with (first
        | (go_at_call 18; refine (hm _).mono ?_; rintro e w' ⟨rfl, rfl⟩)
        | (go_at_call 18; refine (hn _).mono ?_; rintro e w' ⟨rfl, rfl⟩))
      go_ret
      exact ⟨rfl, rfl⟩
    · have hxy : (x == 0 || y == 0) = false := by simp [hx, hy]
      by_cases hd : 4611686018427387904 / y < x
      · have e : min (x * y) 4611686018427387904 = 4611686018427387904 := by have := div_gt (by omega) hd; omega
        rw [e]
        clear e
        go_enter Try.func11, Try.ntmps11
        go_wp2_with (first
          | (go_at_call 18; refine (hm _).mono ?_; rintro e w' ⟨rfl, rfl⟩)
          | (go_at_call 18; refine (hn _).mono ?_; rintro e w' ⟨rfl, rfl⟩))
        go_ret
        exact ⟨rfl, rfl⟩
      · have hle := div_le (show 0 < y by omega) (show x ≤ 4611686018427387904 / y by omega)
        have hge := Int.mul_nonneg x0 y0
        have e : min (x * y) 4611686018427387904 = x * y := by omega
        rw [e]
        clear e
        go_enter Try.func11, Try.ntmps11
        go_wp2_with (first
          | (go_at_call 18; refine (hm _).mono ?_; rintro e w' ⟨rfl, rfl⟩)
          | (go_at_call 18; refine (hn _).mono ?_; rintro e w' ⟨rfl, rfl⟩))
        all_goals go_ret
        all_goals exact ⟨rfl, rfl⟩
end Go.Proofs.Ythjmgahgfkecfab
