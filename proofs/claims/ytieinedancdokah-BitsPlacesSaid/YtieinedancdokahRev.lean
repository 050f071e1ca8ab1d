/-
  BITS IN THE OTHER ORDER, by contract.
-/
import Derived.Test.YtieinedancdokahRevMath
import Derived.Laws.BitsAllLaws
import Derived.Laws.BitsLemmas
import Derived.Laws.Bits128
namespace Go.Proofs.Ytieinedancdokah
open Go.ChangeShapes Go.WideShapes Go.ChangeAt Go.RowKit

theorem wrap_nat64 (n : Nat) (h : n < 18446744073709551616) : IntKind.u64.wrap (n : Int) = (n : Int) := IntWalk.u64_in _ (by omega)
theorem swap_e (k n M K : Nat) (hK : 2 ^ k = K) (hM : maskD k n = M) (hk : 2 ^ (2 * k * n) = 18446744073709551616) (hM1 : M < 18446744073709551616) (x : Nat) (hx : x < 18446744073709551616) :
    bits BinOp.or IntKind.u64 (bits BinOp.and IntKind.u64 ((x : Int) / (K : Int)) (M : Int)) (IntKind.u64.wrap (bits BinOp.and IntKind.u64 (x : Int) (M : Int) * (K : Int))) = ((swapD k n x : Nat) : Int) := by
  have hd : x / K < 18446744073709551616 := Nat.lt_of_le_of_lt (Nat.div_le_self _ _) hx
  have h1 := u64_and_nat (x / K) M hd hM1
  have h2 := u64_and_nat x M hx hM1
  have h3 := swap_masks k n x
  have h4 := swap_lt k n x
  rw [hk] at h4
  rw [hK, hM] at h3
  have hle : K * (x &&& M) ≤ swapD k n x := by rw [← h3]; exact Nat.right_le_or
  have hle1 : x / K &&& M ≤ swapD k n x := by rw [← h3]; exact Nat.left_le_or
  rw [← Int.natCast_ediv, h1, h2, ← Int.natCast_mul, Nat.mul_comm, wrap_nat64 _ (by omega), u64_or_nat _ _ (by omega) (by omega), h3]
theorem swap_e1 (x : Nat) (hx : x < 18446744073709551616) : bits BinOp.or IntKind.u64 (bits BinOp.and IntKind.u64 ((x : Int) / 2) 6148914691236517205) (IntKind.u64.wrap (bits BinOp.and IntKind.u64 (x : Int) 6148914691236517205 * 2)) = ((swapD 1 32 x : Nat) : Int) :=
  swap_e 1 32 6148914691236517205 2 (by decide) masks.1 (by decide) (by omega) x hx
theorem swap_e2 (x : Nat) (hx : x < 18446744073709551616) : bits BinOp.or IntKind.u64 (bits BinOp.and IntKind.u64 ((x : Int) / 4) 3689348814741910323) (IntKind.u64.wrap (bits BinOp.and IntKind.u64 (x : Int) 3689348814741910323 * 4)) = ((swapD 2 16 x : Nat) : Int) :=
  swap_e 2 16 3689348814741910323 4 (by decide) masks.2.1 (by decide) (by omega) x hx
theorem swap_e3 (x : Nat) (hx : x < 18446744073709551616) : bits BinOp.or IntKind.u64 (bits BinOp.and IntKind.u64 ((x : Int) / 16) 1085102592571150095) (IntKind.u64.wrap (bits BinOp.and IntKind.u64 (x : Int) 1085102592571150095 * 16)) = ((swapD 4 8 x : Nat) : Int) :=
  swap_e 4 8 1085102592571150095 16 (by decide) masks.2.2 (by decide) (by omega) x hx
theorem swap_e4 (x : Nat) (hx : x < 18446744073709551616) : bits BinOp.or IntKind.u64 (bits BinOp.and IntKind.u64 ((x : Int) / 256) 71777214294589695) (IntKind.u64.wrap (bits BinOp.and IntKind.u64 (x : Int) 71777214294589695 * 256)) = ((swapD 8 4 x : Nat) : Int) :=
  swap_e 8 4 71777214294589695 256 (by decide) masks2.1 (by decide) (by omega) x hx
theorem swap_e5 (x : Nat) (hx : x < 18446744073709551616) : bits BinOp.or IntKind.u64 (bits BinOp.and IntKind.u64 ((x : Int) / 65536) 281470681808895) (IntKind.u64.wrap (bits BinOp.and IntKind.u64 (x : Int) 281470681808895 * 65536)) = ((swapD 16 2 x : Nat) : Int) :=
  swap_e 16 2 281470681808895 65536 (by decide) masks2.2 (by decide) (by omega) x hx
theorem swap_e6 (x : Nat) (hx : x < 18446744073709551616) : bits BinOp.or IntKind.u64 ((x : Int) / 4294967296) (IntKind.u64.wrap ((x : Int) * 4294967296)) = ((swapD 32 1 x : Nat) : Int) := by
  have e1 : IntKind.u64.wrap ((x : Int) * 4294967296) = ((4294967296 * (x % 4294967296) : Nat) : Int) := by
    rw [IntKind.wrap_u64]; omega
  have e2 : (x : Int) / 4294967296 = ((x / 4294967296 : Nat) : Int) := by omega
  rw [e1, e2, u64_or_nat _ _ (by omega) (by omega)]
  have h := or_add 32 (x / 4294967296) (x % 4294967296) (by omega)
  have e3 : swapD 32 1 x = x / 4294967296 % 4294967296 + 4294967296 * (x % 4294967296) := by simp [swapD]
  have e4 : x / 4294967296 % 4294967296 = x / 4294967296 := Nat.mod_eq_of_lt (by omega)
  rw [e3, e4]
  exact congrArg _ h
set_option maxHeartbeats 800000 in
theorem revB_c (x : Nat) (w : World) (hx : x < 18446744073709551616) : Calls Try.prog 21 #[.int .u64 (x : Int)] w fun e w' => e = .returned (.int .u64 ((swapD 32 1 (swapD 16 2 (swapD 8 4 x)) : Nat) : Int)) ∧ w' = w := by
  have hx1 : (x : Int) < 18446744073709551616 := by omega
  go_enter Try.func21, Try.ntmps21
  go_wp2
  go_ret
  rw [swap_e4 x hx, swap_e5 _ (swap_lt 8 4 _), swap_e6 _ (swap_lt 16 2 _)]
  exact ⟨rfl, rfl⟩
set_option maxHeartbeats 800000 in
theorem rev_c (x : Nat) (w : World) (hx : x < 18446744073709551616) : Calls Try.prog 14 #[.int .u64 (x : Int)] w fun e w' => e = .returned (.int .u64 ((turnN x 64 : Nat) : Int)) ∧ w' = w := by
  have hx1 : (x : Int) < 18446744073709551616 := by omega
  have hB := revB_c (rev3 x) w (swap_lt 4 8 _)
  rw [rev_all x _ rfl] at hB
  have e1 := swap_e1 x hx
  have e2 := swap_e2 _ (swap_lt 1 32 x)
  have e3 := swap_e3 _ (swap_lt 2 16 (swapD 1 32 x))
  rw [show swapD 4 8 (swapD 2 16 (swapD 1 32 x)) = rev3 x from rfl] at e3
  generalize turnN x 64 = z at *
  generalize swapD 2 16 (swapD 1 32 x) = x2 at *
  generalize swapD 1 32 x = x1 at *
  generalize rev3 x = x3 at *
  have hx2 : (0 : Int) ≤ (x : Int) := by omega
  go_enter Try.func14, Try.ntmps14
  go_wp2_with fail
  clear e1 e2 e3
  refine hB.mono ?_
  rintro e w' ⟨rfl, rfl⟩
  clear hB
  go_wp2
  go_ret
  exact ⟨rfl, rfl⟩
end Go.Proofs.Ytieinedancdokah
