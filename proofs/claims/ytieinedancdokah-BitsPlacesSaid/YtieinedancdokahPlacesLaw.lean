/-
  PLACES OF BITS: the law's own walk.
-/
import Derived.Test.YtieinedancdokahRefPlaces
import Derived.Test.YtieinedancdokahPop
import Derived.Test.YtieinedancdokahXCodeG
namespace Go.Proofs.Ytieinedancdokah
open Go.ChangeShapes Go.WideShapes Go.ChangeAt Go.RowKit

theorem wide_le (n : Int) : wideN n ≤ 64 := by unfold wideN; omega
theorem turn_64 (u : Nat) (k : Nat) (hk : k ≤ 64) : turnN u k < 18446744073709551616 := Nat.lt_of_lt_of_le (turn_lt u k) (Nat.pow_le_pow_right (by omega) (show k ≤ 64 by omega))
set_option maxHeartbeats 3200000 in
theorem law_c (u : Nat) (n : Int) (w : World) (hu : u < 18446744073709551616) (hn : -9223372036854775808 ≤ n) (hn9 : n ≤ 9223372036854775807)
    (hlv : ∀ x, Calls Try.prog 13 #[] x fun e w' => e = .returned (.bool true) ∧ GoX.Calm x w') :
    Calls Try.prog 3 #[.int .u64 (u : Int), .int .i64 n] w fun e w' => e = .returned (.bool true) ∧ GoX.Calm w w' := by
  have hc := wide_le n
  have h1 := fun w => rwide_c n w
  have h2 := fun w => turn_c u n w hu
  have h3 := fun w => log_c u w hu
  have h4 := fun w => rlog_c u w hu
  have h5 := fun w => countE_c u w hu
  have h6 := fun w => rcount_c u w hu
  have h7 := fun w => shiftE_c u n w hu hn
  have h8 := fun w => rshift_c u n w hu hn hn9
  have h9 := fun w => rturn_c u (wideN n) w hu hc
  have ht := turn_64 u (wideN n) hc
  have ha := fun w => turn_c (turnN u (wideN n)) n w ht
  have hb := fun w => rturn_c (turnN u (wideN n)) (wideN n) w ht hc
  have hd := fun w => turn_c u 64 w hu
  rw [show wideN 64 = 64 from rfl] at hd
  have he := fun w => countE_c (turnN u 64) w (turn_64 u 64 (Nat.le_refl _))
  rw [ds_turn] at he
  generalize turnN u 64 = T64 at *
  generalize turnN (turnN u (wideN n)) (wideN n) = TT at *
  generalize turnN u (wideN n) = T at *
  generalize wideN n = c at *
  generalize shiftN u n = S at *
  generalize (Lib.bitLen u : Int) - 1 = LG at *
  generalize ds 1 64 u = C at *
  clear hc ht hn hn9
  go_enter Try.func3, Try.ntmps3
  go_wp2_with fail
  refine (h1 _).mono ?_
  rintro e w' ⟨rfl, rfl⟩
  go_wp2_with fail
  refine (h2 _).mono ?_
  rintro e w' ⟨rfl, rfl⟩
  go_wp2_with fail
  refine (h3 _).mono ?_
  rintro e w' ⟨rfl, rfl⟩
  go_wp2_with fail
  refine (h4 _).mono ?_
  rintro e w' ⟨rfl, rfl⟩
  go_wp2_with fail
  refine (h5 _).mono ?_
  rintro e w' ⟨rfl, rfl⟩
  go_wp2_with fail
  refine (h6 _).mono ?_
  rintro e w' ⟨rfl, rfl⟩
  go_wp2_with fail
  refine (h7 _).mono ?_
  rintro e w' ⟨rfl, rfl⟩
  go_wp2_with fail
  refine (h8 _).mono ?_
  rintro e w' ⟨rfl, rfl⟩
  go_wp2_with fail
  refine (h9 _).mono ?_
  rintro e w' ⟨rfl, rfl⟩
  go_wp2_with fail
  refine (ha _).mono ?_
  rintro e w' ⟨rfl, rfl⟩
  go_wp2_with fail
  refine (h9 _).mono ?_
  rintro e w' ⟨rfl, rfl⟩
  go_wp2_with fail
  refine (hb _).mono ?_
  rintro e w' ⟨rfl, rfl⟩
  go_wp2_with fail
  refine (hd _).mono ?_
  rintro e w' ⟨rfl, rfl⟩
  go_wp2_with fail
  refine (he _).mono ?_
  rintro e w' ⟨rfl, rfl⟩
  go_wp2_with fail
  refine (h6 _).mono ?_
  rintro e w' ⟨rfl, rfl⟩
  go_wp2_with fail
  refine (hlv _).mono ?_
  rintro e wz ⟨rfl, hC⟩
  replace hC := (show Hid _ from hC)
  go_wp2
  go_ret
  exact ⟨rfl, hC.out⟩
end Go.Proofs.Ytieinedancdokah
