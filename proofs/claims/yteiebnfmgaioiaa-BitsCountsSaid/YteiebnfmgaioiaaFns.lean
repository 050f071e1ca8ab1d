/-
  THE FUNCTIONS OF BITS AND ITS REFERENCE, each by a contract: what it returns, as a plain function of whole numbers.
-/
import Derived.Test.YteiebnfmgaioiaaRows
import Derived.Test.YteiebnfmgaioiaaMath
import Derived.Test.YteiebnfmgaioiaaShelf
import Derived.WalkKit
import Derived.ProofKit
import Derived.OpenShut
namespace Go.Proofs.Yteiebnfmgaioiaa
open Go.ChangeShapes Go.WideShapes Go.ChangeAt Go.RowKit BitsMath
theorem power_c {k : Int} (h0 : 0 ≤ k) (h1 : k ≤ 63) (w : World) : Calls Try.prog 40 #[.int .i64 k] w fun e w' => e = .returned (.int .u64 (pw k.toNat)) ∧ w' = w := by
  go_enter Try.func40, Try.ntmps40
  go_wp2
  go_loop [3, 4] (fun p i => ∃ j : Nat, (j : Int) ≤ k ∧ i = .int .i64 j ∧ p = .int .u64 (pw j))
                 (fun _ i => k.toNat - (intOf i).toNat)
  case atStart => exact ⟨0, by omega, rfl, rfl⟩
  case round =>
    obtain ⟨j, hj, rfl, rfl⟩ := hrel
    by_cases hlt : (j : Int) < k
    · have hb := pw_le j 62 (by omega)
      have hs := pw_succ j
      have hp := pw_pos j
      rw [pw62] at hb
      go_wp2
      go_round
      case rel => exact ⟨j + 1, by omega, by go_num, by rw [hs]⟩
      case measure => simp [intOf]; omega
    · have : (j : Int) = k := by omega
      subst this
      go_wp2
      go_ret
      exact ⟨rfl, rfl⟩
theorem between_c (n : Int) {l m : Int} (h : l ≤ m) (w : World) : Calls Try.prog 36 #[.int .i64 n, .int .i64 l, .int .i64 m] w fun e w' => e = .returned (.int .i64 (clamp n l m)) ∧ w' = w := by
  go_enter Try.func36, Try.ntmps36
  go_wp2
  all_goals go_ret
  all_goals exact ⟨ret_int (by unfold clamp; omega), rfl⟩
theorem rwide_c (n : Int) {l : Int} (h : l ≤ 64) (w : World) : Calls Try.prog 17 #[.int .i64 n, .int .i64 l] w fun e w' => e = .returned (.int .i64 (clamp n l 64)) ∧ w' = w := by
  go_enter Try.func17, Try.ntmps17
  go_wp2
  all_goals go_ret
  all_goals exact ⟨ret_int (by unfold clamp; omega), rfl⟩
theorem cut_c (n wide : Int) (w : World) : Calls Try.prog 26 #[.int .i64 n, .int .i64 wide] w fun e w' => e = .returned (.int .i64 (cutZ n (clamp wide 1 64).toNat)) ∧ w' = w := by
  have h0 := clamp_lo wide 1 64
  have h1 := clamp_hi wide (show (1 : Int) ≤ 64 by decide)
  have he := cut_eq n (w := (clamp wide 1 64).toNat) (by omega) (by omega)
  have hb := fun w => between_c wide (l := 1) (m := 64) (by decide) w
  generalize clamp wide 1 64 = c at *
  have hc : (64 - c).toNat = 64 - c.toNat := by omega
  go_enter Try.func26, Try.ntmps26
  go_wp2_with (go_at_call 36; refine (hb _).mono ?_; rintro e w' ⟨rfl, rfl⟩)
  go_ret
  exact ⟨ret_int (by rw [int_pow]; exact he), rfl⟩
theorem fits_c (n wide : Int) (w : World) : Calls Try.prog 27 #[.int .i64 n, .int .i64 wide] w fun e w' => e = .returned (.bool (fitB n (clamp wide 1 64).toNat)) ∧ w' = w := by
  go_enter Try.func27, Try.ntmps27
  go_wp2_with (go_at_call 26; refine (cut_c _ _ _).mono ?_; rintro e w' ⟨rfl, rfl⟩)
  go_ret
  exact ⟨ret_bool (by unfold fitB; rfl), rfl⟩

theorem rfits_c {n wd : Int} (h0 : -9223372036854775808 ≤ n) (h1 : n ≤ 9223372036854775807) (h2 : 1 ≤ wd) (h3 : wd ≤ 64) (w : World) :
    Calls Try.prog 28 #[.int .i64 n, .int .i64 wd] w fun e w' => e = .returned (.bool (fitB n wd.toNat)) ∧ w' = w := by
  rw [fitB_eq n (by omega)]
  by_cases h : wd = 64
  · subst h
    have e : decide (-pw ((64 : Int).toNat - 1) ≤ n ∧ n < pw ((64 : Int).toNat - 1)) = true := by
      rw [show (64 : Int).toNat - 1 = 63 by decide, pw63]; simp; omega
    go_enter Try.func28, Try.ntmps28
    go_wp2
    go_ret
    exact ⟨ret_bool e.symm, rfl⟩
  · have hp1 := pw_pos (wd.toNat - 1)
    have hp2 := pw_le (wd.toNat - 1) 62 (by omega)
    rw [pw62] at hp2
    have ht : (wd - 1).toNat = wd.toNat - 1 := by omega
    have hb := fun w => power_c (k := wd - 1) (by omega) (by omega) w
    rw [ht] at hb
    generalize pw (wd.toNat - 1) = q at *
    go_enter Try.func28, Try.ntmps28
    go_wp2_with (go_at_call 40; refine (hb _).mono ?_; rintro e w' ⟨rfl, rfl⟩)
    all_goals go_ret
    all_goals exact ⟨ret_bool (by simp; omega), rfl⟩
theorem rcut_c {n wd : Int} (h0 : -9223372036854775808 ≤ n) (h1 : n ≤ 9223372036854775807) (h2 : 1 ≤ wd) (h3 : wd ≤ 64) (w : World) :
    Calls Try.prog 29 #[.int .i64 n, .int .i64 wd] w fun e w' => e = .returned (.int .i64 (cutZ n wd.toNat)) ∧ w' = w := by
  by_cases h : wd = 64
  · subst h
    have e : cutZ n (64 : Int).toNat = n := cutZ_self (by decide) (by rw [show (64 : Int).toNat - 1 = 63 by decide, pw63]; omega) (by rw [show (64 : Int).toNat - 1 = 63 by decide, pw63]; omega)
    go_enter Try.func29, Try.ntmps29
    go_wp2
    go_ret
    exact ⟨ret_int e.symm, rfl⟩
  · have hp1 := pw_pos (wd.toNat - 1)
    have hp2 := pw_le (wd.toNat - 1) 62 (by omega)
    rw [pw62] at hp2
    have hp3 := pw_half (w := wd.toNat) (by omega)
    have hp4 : 0 < pw wd.toNat := by omega
    have hm0 := Int.emod_nonneg n (show pw wd.toNat ≠ 0 by omega)
    have hm1 := Int.emod_lt_of_pos n hp4
    have hu : (n % 18446744073709551616) % pw wd.toNat = n % pw wd.toNat := by
      have hd : pw wd.toNat * pw (64 - wd.toNat) = 18446744073709551616 := by rw [← pw_add, show wd.toNat + (64 - wd.toNat) = 64 by omega, pw64]
      rw [← hd]
      exact Int.emod_emod_of_dvd _ ⟨_, rfl⟩
    have hg : cutZ n wd.toNat = if pw (wd.toNat - 1) ≤ n % pw wd.toNat then n % pw wd.toNat - 2 * pw (wd.toNat - 1) else n % pw wd.toNat := by unfold cutZ; rw [← hp3]
    rw [hg]
    clear hg
    rw [hp3] at hm0 hm1 hu ⊢
    have hU : IntKind.u64.wrap n = n % 18446744073709551616 := IntKind.wrap_u64 n
    have hU0 : 0 ≤ n % 18446744073709551616 := by omega
    have hU1 : n % 18446744073709551616 < 18446744073709551616 := by omega
    generalize hM : n % (2 * pw (wd.toNat - 1)) = M at *
    by_cases hn : 0 ≤ n
    · clear hu hU hU0 hU1
      go_enter Try.func29, Try.ntmps29
      go_wp2_with (go_at_call 40; refine (power_c (by omega) (by omega) _).mono ?_; rintro e w' ⟨rfl, rfl⟩)
      all_goals go_ret
      all_goals exact ⟨ret_int (by first | rfl | (split <;> omega) | omega), rfl⟩
    · generalize n % 18446744073709551616 = U at *
      go_enter Try.func29, Try.ntmps29
      go_wp2_with (go_at_call 40; refine (power_c (by omega) (by omega) _).mono ?_; rintro e w' ⟨rfl, rfl⟩)
      all_goals go_ret
      all_goals exact ⟨ret_int (by first | rfl | (split <;> omega) | omega), rfl⟩
theorem zig_c {n : Int} (h0 : -9223372036854775808 ≤ n) (h1 : n ≤ 9223372036854775807) (w : World) :
    Calls Try.prog 8 #[.int .i64 n] w fun e w' => e = .returned (.int .u64 (zz n)) ∧ w' = w := by
  go_enter Try.func8, Try.ntmps8
  go_wp2
  go_ret
  exact ⟨ret_int (zig_eq h0 h1), rfl⟩
theorem zag_c {n : Int} (h0 : 0 ≤ n) (h1 : n ≤ 18446744073709551615) (w : World) :
    Calls Try.prog 10 #[.int .u64 n] w fun e w' => e = .returned (.int .i64 (zg n)) ∧ w' = w := by
  go_enter Try.func10, Try.ntmps10
  go_wp2
  go_ret
  exact ⟨ret_int (zag_eq h0 h1), rfl⟩
theorem rzig_c {n : Int} (h0 : -9223372036854775808 ≤ n) (h1 : n ≤ 9223372036854775807) (w : World) :
    Calls Try.prog 9 #[.int .i64 n] w fun e w' => e = .returned (.int .u64 (zz n)) ∧ w' = w := by
  by_cases hn : n < 0
  · go_enter Try.func9, Try.ntmps9
    go_wp2
    go_ret
    exact ⟨ret_int (by unfold zz; rw [if_pos hn]; omega), rfl⟩
  · have hn' : 0 ≤ n := by omega
    go_enter Try.func9, Try.ntmps9
    go_wp2
    go_ret
    exact ⟨ret_int (by unfold zz; rw [if_neg (by omega)]), rfl⟩
theorem rzag_c {n : Int} (h0 : 0 ≤ n) (h1 : n ≤ 18446744073709551615) (w : World) :
    Calls Try.prog 11 #[.int .u64 n] w fun e w' => e = .returned (.int .i64 (zg n)) ∧ w' = w := by
  by_cases hn : n % 2 = 1
  · go_enter Try.func11, Try.ntmps11
    go_wp2
    go_ret
    exact ⟨ret_int (by unfold zg; rw [if_pos hn]), rfl⟩
  · go_enter Try.func11, Try.ntmps11
    go_wp2
    go_ret
    exact ⟨ret_int (by unfold zg; rw [if_neg hn]), rfl⟩
theorem cut_one (w : World) : Calls Try.prog 26 #[.int .i64 200, .int .i64 8] w fun e w' => e = .returned (.int .i64 (-56)) ∧ w' = w := by
  go_enter Try.func26, Try.ntmps26
  go_wp2
  go_ret
  exact ⟨ret_int (by unfold wrap64; omega), rfl⟩
theorem lives_c (w : World) : Calls Try.prog 12 #[] w fun e w' => e = .returned (.bool true) ∧ w' = w := by
  go_enter Try.func12, Try.ntmps12
  go_wp2_with (first
    | (go_at_call 8; refine (zig_c (by decide) (by decide) _).mono ?_; rintro e w' ⟨rfl, rfl⟩)
    | (go_at_call 26; refine (cut_one _).mono ?_; rintro e w' ⟨rfl, rfl⟩))
  go_ret
  exact ⟨rfl, rfl⟩


theorem pack_c {a b : Int} (h0 : 0 ≤ a) (h1 : a ≤ 4294967295) (h2 : 0 ≤ b) (h3 : b ≤ 4294967295) (w : World) :
    Calls Try.prog 31 #[.int .u32 a, .int .u32 b] w fun e w' => e = .returned (.int .u64 (a * 4294967296 + b)) ∧ w' = w := by
  go_enter Try.func31, Try.ntmps31
  go_wp2
  go_ret
  exact ⟨ret_int (pack_eq h0 h1 h2 h3), rfl⟩
theorem parts_c {u : Int} (h0 : 0 ≤ u) (h1 : u ≤ 18446744073709551615) (w : World) :
    Calls Try.prog 30 #[.int .u64 u] w fun e w' => e = .returned (.tuple #[.int .u32 (u / 4294967296), .int .u32 (u % 4294967296)]) ∧ w' = w := by
  have e : u / 4294967296 % 4294967296 = u / 4294967296 := by omega
  go_enter Try.func30, Try.ntmps30
  go_wp2
  go_ret2
  exact ⟨rfl, rfl⟩
theorem atMost_c (u : Int) (w : World) : Calls Try.prog 32 #[.int .u64 u] w fun e w' => e = .returned (.int .u64 (min u 4611686018427387904)) ∧ w' = w := by
  go_enter Try.func32, Try.ntmps32
  go_wp2
  all_goals go_ret
  all_goals exact ⟨ret_int (by omega), rfl⟩
theorem top_c (u : Int) (w : World) : Calls Try.prog 33 #[.int .u64 u] w fun e w' => e = .returned (.int .u64 (min u 4611686018427387904)) ∧ w' = w := by
  go_enter Try.func33, Try.ntmps33
  go_wp2
  all_goals go_ret
  all_goals exact ⟨ret_int (by omega), rfl⟩
theorem add_c {a b : Int} (h0 : 0 ≤ a) (h1 : 0 ≤ b) (w : World) : Calls Try.prog 13 #[.int .u64 a, .int .u64 b] w fun e w' => e = .returned (.int .u64 (addS a b)) ∧ w' = w := by
  go_enter Try.func13, Try.ntmps13
  go_wp2_with (go_at_call 32; refine (atMost_c _ _).mono ?_; rintro e w' ⟨rfl, rfl⟩)
  go_ret
  exact ⟨ret_int (by unfold addS; omega), rfl⟩
theorem radd_c {a b : Int} (h0 : 0 ≤ a) (h1 : 0 ≤ b) (w : World) : Calls Try.prog 14 #[.int .u64 a, .int .u64 b] w fun e w' => e = .returned (.int .u64 (addS a b)) ∧ w' = w := by
  go_enter Try.func14, Try.ntmps14
  go_wp2_with (go_at_call 33; refine (top_c _ _).mono ?_; rintro e w' ⟨rfl, rfl⟩)
  go_ret
  exact ⟨ret_int (by unfold addS; omega), rfl⟩
theorem times_c {a b : Int} (h0 : 0 ≤ a) (h1 : a ≤ 18446744073709551615) (h2 : 0 ≤ b) (h3 : b ≤ 18446744073709551615) (w : World) :
    Calls Try.prog 15 #[.int .u64 a, .int .u64 b] w fun e w' => e = .returned (.int .u64 (mulS a b)) ∧ w' = w := by
  unfold mulS
  have hm := fun (w : World) => atMost_c a w
  have hn := fun (w : World) => atMost_c b w
  obtain ⟨x, hx⟩ := Int.eq_ofNat_of_zero_le (show 0 ≤ min a 4611686018427387904 by omega)
  obtain ⟨y, hy⟩ := Int.eq_ofNat_of_zero_le (show 0 ≤ min b 4611686018427387904 by omega)
  rw [hx] at hm ⊢
  rw [hy] at hn ⊢
  have hxx : x ≤ 4611686018427387904 := by omega
  have hyy : y ≤ 4611686018427387904 := by omega
  clear hx hy
  have hmul := fun (w : World) => Try.bits_Mul64 x y (by omega) (by omega) w
  obtain ⟨f1, f2⟩ := mul_nat x y
  have hge : (0 : Int) ≤ ((x * y / 18446744073709551616 : Nat) : Int) := by omega
  generalize ((x * y / 18446744073709551616 : Nat) : Int) = hi at *
  generalize ((x * y % 18446744073709551616 : Nat) : Int) = lo at *
  generalize min ((x : Int) * y) 4611686018427387904 = r at *
  by_cases hh : 0 < hi
  · have hr := f1 hh
    subst hr
    clear f1 f2
    go_enter Try.func15, Try.ntmps15
    go_wp2_with (first
      | (go_at_call 32; refine (hm _).mono ?_; rintro e w' ⟨rfl, rfl⟩)
      | (go_at_call 32; refine (hn _).mono ?_; rintro e w' ⟨rfl, rfl⟩)
      | (go_at_call 34; refine (hmul _).mono ?_; rintro e w' ⟨rfl, rfl⟩))
    go_ret
    exact ⟨rfl, rfl⟩
  · have hr := f2 hh
    have hl := fun (w : World) => atMost_c lo w
    rw [hr] at hl
    clear f1 f2 hr
    obtain rfl : hi = 0 := by omega
    go_enter Try.func15, Try.ntmps15
    go_wp2_with (first
      | (go_at_call 32; refine (hm _).mono ?_; rintro e w' ⟨rfl, rfl⟩)
      | (go_at_call 32; refine (hn _).mono ?_; rintro e w' ⟨rfl, rfl⟩)
      | (go_at_call 32; refine (hl _).mono ?_; rintro e w' ⟨rfl, rfl⟩)
      | (go_at_call 34; refine (hmul _).mono ?_; rintro e w' ⟨rfl, rfl⟩))
    go_ret
    exact ⟨rfl, rfl⟩
theorem rtimes_c {a b : Int} (h0 : 0 ≤ a) (h1 : a ≤ 18446744073709551615) (h2 : 0 ≤ b) (h3 : b ≤ 18446744073709551615) (w : World) :
    Calls Try.prog 16 #[.int .u64 a, .int .u64 b] w fun e w' => e = .returned (.int .u64 (mulS a b)) ∧ w' = w := by
  unfold mulS
  have hm := fun (w : World) => top_c a w
  have hn := fun (w : World) => top_c b w
  have x0 : 0 ≤ min a 4611686018427387904 := by omega
  have y0 : 0 ≤ min b 4611686018427387904 := by omega
  have x1 : min a 4611686018427387904 ≤ 4611686018427387904 := by omega
  have y1 : min b 4611686018427387904 ≤ 4611686018427387904 := by omega
  generalize min a 4611686018427387904 = x at *
  generalize min b 4611686018427387904 = y at *
  by_cases hx : x = 0
  · subst hx
    have e : min (0 * y) 4611686018427387904 = 0 := by rw [Int.zero_mul]; decide
    rw [e]
    clear e
    go_enter Try.func16, Try.ntmps16
    go_wp2_with (first
      | (go_at_call 33; refine (hm _).mono ?_; rintro e w' ⟨rfl, rfl⟩)
      | (go_at_call 33; refine (hn _).mono ?_; rintro e w' ⟨rfl, rfl⟩))
    go_ret
    exact ⟨rfl, rfl⟩
  · by_cases hy : y = 0
    · subst hy
      have e : min (x * 0) 4611686018427387904 = 0 := by rw [Int.mul_zero]; decide
      rw [e]
      clear e
      go_enter Try.func16, Try.ntmps16
      go_wp2_with (first
        | (go_at_call 33; refine (hm _).mono ?_; rintro e w' ⟨rfl, rfl⟩)
        | (go_at_call 33; refine (hn _).mono ?_; rintro e w' ⟨rfl, rfl⟩))
      go_ret
      exact ⟨rfl, rfl⟩
    · have hxy : (x == 0 || y == 0) = false := by simp [hx, hy]
      by_cases hd : 4611686018427387904 / y < x
      · have e : min (x * y) 4611686018427387904 = 4611686018427387904 := by have := div_gt (by omega) hd; omega
        rw [e]
        clear e
        go_enter Try.func16, Try.ntmps16
        go_wp2_with (first
          | (go_at_call 33; refine (hm _).mono ?_; rintro e w' ⟨rfl, rfl⟩)
          | (go_at_call 33; refine (hn _).mono ?_; rintro e w' ⟨rfl, rfl⟩))
        go_ret
        exact ⟨rfl, rfl⟩
      · have hle := div_le (show 0 < y by omega) (show x ≤ 4611686018427387904 / y by omega)
        have hge := Int.mul_nonneg x0 y0
        have e : min (x * y) 4611686018427387904 = x * y := by omega
        rw [e]
        clear e
        go_enter Try.func16, Try.ntmps16
        go_wp2_with (first
          | (go_at_call 33; refine (hm _).mono ?_; rintro e w' ⟨rfl, rfl⟩)
          | (go_at_call 33; refine (hn _).mono ?_; rintro e w' ⟨rfl, rfl⟩))
        all_goals go_ret
        all_goals exact ⟨rfl, rfl⟩
end Go.Proofs.Yteiebnfmgaioiaa
