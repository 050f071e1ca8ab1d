/-
  NUMBERS WITH THEIR SIGNS LOWEST: Zig and Zag, the program's and the reference's, by contract.
-/
import Derived.Test.YtmjffmjpefaafafRows1
import Derived.Test.YtmjffmjpefaafafBMath
namespace Go.Proofs.Ytmjffmjpefaafaf
open Go.ChangeShapes Go.WideShapes Go.ChangeAt Go.RowKit BitsMath

theorem zig_c {n : Int} (h0 : -9223372036854775808 ≤ n) (h1 : n ≤ 9223372036854775807) (w : World) :
    Calls Try.prog 10 #[.int .i64 n] w fun e w' => e = .returned (.int .u64 (zz n)) ∧ w' = w := by
  go_enter Try.func10, Try.ntmps10
  go_wp2
  go_ret
  exact ⟨BitsMath.ret_int (zig_eq h0 h1), rfl⟩
theorem zag_c {n : Int} (h0 : 0 ≤ n) (h1 : n ≤ 18446744073709551615) (w : World) :
    Calls Try.prog 15 #[.int .u64 n] w fun e w' => e = .returned (.int .i64 (zg n)) ∧ w' = w := by
  go_enter Try.func15, Try.ntmps15
  go_wp2
  go_ret
  exact ⟨BitsMath.ret_int (zag_eq h0 h1), rfl⟩
theorem rzig_c {n : Int} (h0 : -9223372036854775808 ≤ n) (h1 : n ≤ 9223372036854775807) (w : World) :
    Calls Try.prog 13 #[.int .i64 n] w fun e w' => e = .returned (.int .u64 (zz n)) ∧ w' = w := by
  by_cases hn : n < 0
  · go_enter Try.func13, Try.ntmps13
    go_wp2
    go_ret
    exact ⟨BitsMath.ret_int (by unfold zz; rw [if_pos hn]; omega), rfl⟩
  · have hn' : 0 ≤ n := by omega
    go_enter Try.func13, Try.ntmps13
    go_wp2
    go_ret
    exact ⟨BitsMath.ret_int (by unfold zz; rw [if_neg (by omega)]), rfl⟩
end Go.Proofs.Ytmjffmjpefaafaf
