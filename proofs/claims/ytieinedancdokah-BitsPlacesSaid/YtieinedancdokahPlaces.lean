/-
  PLACES OF BITS: the program's and the reference's functions, by contract.
-/
import Derived.Test.YtieinedancdokahRev
import Derived.Test.YtieinedancdokahShelf
import Derived.Lib.BitFns
namespace Go.Proofs.Ytieinedancdokah
open Go.ChangeShapes Go.WideShapes Go.ChangeAt Go.RowKit

/-- A width, from 0 to 64. -/
def wideN (n : Int) : Nat := min n.toNat 64
/-- Bits, moved. -/
def shiftN (u : Nat) (n : Int) : Nat := if 0 ≤ n then u * 2 ^ wideN n % 18446744073709551616 else u / 2 ^ wideN (-n)
theorem shift_up (u : Nat) (n : Int) (h : 64 ≤ n) : shiftN u n = 0 := by
  unfold shiftN wideN
  rw [if_pos (by omega), show min n.toNat 64 = 64 by omega]
  exact Nat.mod_eq_zero_of_dvd (Nat.dvd_mul_left _ _)
theorem shift_down (u : Nat) (n : Int) (hu : u < 18446744073709551616) (h : n ≤ -64) : shiftN u n = 0 := by
  unfold shiftN wideN
  rw [if_neg (by omega), show min (-n).toNat 64 = 64 by omega]
  exact Nat.div_eq_of_lt hu
set_option maxHeartbeats 800000 in
theorem between_c (n : Int) (w : World) : Calls Try.prog 15 #[.int .i64 n, .int .i64 0, .int .i64 64] w fun e w' => e = .returned (.int .i64 (wideN n : Nat)) ∧ w' = w := by
  have e : max 0 (min n 64) = ((wideN n : Nat) : Int) := by unfold wideN; omega
  have e := (show Hid _ from e)
  go_enter Try.func15, Try.ntmps15
  go_wp2
  go_ret
  exact ⟨by first | rfl | exact ret_int e.out, rfl⟩
set_option maxHeartbeats 800000 in
theorem turn_c (u : Nat) (n : Int) (w : World) (hu : u < 18446744073709551616) : Calls Try.prog 5 #[.int .u64 (u : Int), .int .i64 n] w fun e w' => e = .returned (.int .u64 ((turnN u (wideN n) : Nat) : Int)) ∧ w' = w := by
  have hr := fun w => rev_c u w hu
  have hb := fun w => between_c n w
  have hc : wideN n ≤ 64 := by unfold wideN; omega
  have hd := turn_down u (wideN n) (64 - wideN n)
  rw [show wideN n + (64 - wideN n) = 64 by omega] at hd
  have hR := turn_lt u 64
  have hR2 : turnN u 64 < 18446744073709551616 := hR
  clear hR
  generalize wideN n = c at *
  generalize turnN u 64 = R at *
  have e1 : (64 : Int) - (c : Int) = ((64 - c : Nat) : Int) := by omega
  have hR1 : (R : Int) < 18446744073709551616 := by omega
  have hq : 64 - c ≤ 64 := by omega
  rw [← hd]
  clear hd
  generalize 64 - c = d at *
  have hd1 : (d : Int) ≤ 64 := by omega
  have hd0 : (0 : Int) ≤ (d : Int) := by omega
  have hmin : min d 64 = d := by omega
  go_enter Try.func5, Try.ntmps5
  go_wp2_with fail
  refine (hr _).mono ?_
  rintro e w' ⟨rfl, rfl⟩
  go_wp2_with fail
  refine (hb _).mono ?_
  rintro e w' ⟨rfl, rfl⟩
  clear hr hb
  go_wp2
  go_ret
  exact ⟨by first | rfl | simp, rfl⟩
set_option maxHeartbeats 800000 in
theorem shiftE_c (u : Nat) (n : Int) (w : World) (hu : u < 18446744073709551616) (hn : -9223372036854775808 ≤ n) : Calls Try.prog 10 #[.int .u64 (u : Int), .int .i64 n] w fun e w' => e = .returned (.int .u64 ((shiftN u n : Nat) : Int)) ∧ w' = w := by
  by_cases h1 : 64 ≤ n
  · rw [shift_up u n h1]
    go_enter Try.func10, Try.ntmps10
    go_wp2
    go_ret
    exact ⟨rfl, rfl⟩
  · by_cases h2 : n ≤ -64
    · rw [shift_down u n hu h2]
      go_enter Try.func10, Try.ntmps10
      go_wp2
      go_ret
      exact ⟨rfl, rfl⟩
    · have hu1 : (u : Int) < 18446744073709551616 := by omega
      by_cases h3 : 0 ≤ n
      · obtain ⟨m, rfl⟩ := Int.eq_ofNat_of_zero_le h3
        have e : shiftN u (m : Int) = u * 2 ^ m % 18446744073709551616 := by unfold shiftN wideN; rw [if_pos h3, show min (m : Int).toNat 64 = m by omega]
        have e2 : IntKind.u64.wrap ((u : Int) * 2 ^ m) = ((u * 2 ^ m % 18446744073709551616 : Nat) : Int) := by
          rw [IntKind.wrap_u64]; simp
        have hm : m < 64 := by omega
        have hmi : (m : Int) < 64 := by omega
        rw [e]
        go_enter Try.func10, Try.ntmps10
        go_wp2
        go_ret
        exact ⟨by first | rfl | rw [e2] | simp [e2], rfl⟩
      · obtain ⟨m, hm⟩ : ∃ m : Nat, -n = (m : Int) := ⟨(-n).toNat, by omega⟩
        have e : shiftN u n = u / 2 ^ m := by unfold shiftN wideN; rw [if_neg h3, show min (-n).toNat 64 = m by omega]
        have hm6 : m < 64 := by omega
        have hmi : (m : Int) < 64 := by omega
        have hm0 : (0 : Int) ≤ (m : Int) := by omega
        rw [e]
        clear e hn
        go_enter Try.func10, Try.ntmps10
        go_wp2
        go_ret
        exact ⟨by first | rfl | simp, rfl⟩
set_option maxHeartbeats 800000 in
theorem log_c (u : Nat) (w : World) (hu : u < 18446744073709551616) : Calls Try.prog 6 #[.int .u64 (u : Int)] w fun e w' => e = .returned (.int .i64 ((Lib.bitLen u : Int) - 1)) ∧ w' = w := by
  have hlen := fun w => Try.bits_Len64 (u : Int) w (by omega) (by omega)
  rw [show ((u : Int)).toNat = u by omega] at hlen
  have hb := Lib.bitLen_le u 64 (by decide) hu
  generalize Lib.bitLen u = B at *
  go_enter Try.func6, Try.ntmps6
  go_wp2_with fail
  refine (hlen _).mono ?_
  rintro e w' ⟨rfl, rfl⟩
  clear hlen
  go_wp2
  go_ret
  exact ⟨rfl, rfl⟩
end Go.Proofs.Ytieinedancdokah
