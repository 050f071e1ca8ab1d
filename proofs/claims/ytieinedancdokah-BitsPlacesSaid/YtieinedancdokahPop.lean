/-
  HOW MANY BITS OF A NUMBER ARE 1, by contract.
-/
import Derived.Test.YtieinedancdokahPopMath
import Derived.Laws.BitsAllLaws
import Derived.Laws.BitsLemmas
import Derived.Laws.Bits128
namespace Go.Proofs.Ytieinedancdokah
open Go.ChangeShapes Go.WideShapes Go.ChangeAt Go.RowKit

theorem wrap_nat (n : Nat) (h : n < 18446744073709551616) : IntKind.u64.wrap (n : Int) = (n : Int) := IntWalk.u64_in _ (by omega)
theorem add_cong {a b c d : Int} (h1 : a = b) (h2 : c = d) : a + c = b + d := by rw [h1, h2]
theorem le_bound : ∀ n x, x < 2 ^ (4 * n) → leD 4 4 n x → x * 15 ≤ 4 * (2 ^ (4 * n) - 1)
  | 0, x, h, _ => by simp at h; omega
  | n + 1, x, h, hl => by
    obtain ⟨h1, h2⟩ := hl
    rw [show (2 : Nat) ^ 4 = 16 from rfl] at h1 h2
    rw [show 4 * (n + 1) = 4 * n + 4 by omega, Nat.pow_add, show (2 : Nat) ^ 4 = 16 from rfl] at h ⊢
    have hp := Nat.two_pow_pos (4 * n)
    have ih := le_bound n (x / 16)
    generalize 2 ^ (4 * n) = P at *
    have := ih (by omega) h2
    omega
theorem pop_e1 (x : Nat) (hx : x < 18446744073709551616) : IntKind.u64.wrap (bits BinOp.and IntKind.u64 ((x : Int) / 2) 6148914691236517205 + bits BinOp.and IntKind.u64 (x : Int) 6148914691236517205) = ((stepD 1 32 x : Nat) : Int) := by
  have h1 := u64_and_nat (x / 2) 6148914691236517205 (by omega) (by omega)
  have h2 := u64_and_nat x 6148914691236517205 hx (by omega)
  have h3 := step_masks 1 32 x
  have h4 := step_lt 1 (by omega) 32 x
  rw [masks.1] at h3
  rw [show (x : Int) / 2 = ((x / 2 : Nat) : Int) by omega]
  refine (congrArg IntKind.u64.wrap (add_cong h1 h2)).trans ?_
  show IntKind.u64.wrap (((x / 2 &&& 6148914691236517205 : Nat) : Int) + ((x &&& 6148914691236517205 : Nat) : Int)) = _
  rw [← Int.natCast_add, ← h3]
  exact wrap_nat _ (by rw [show x / 2 = x / 2 ^ 1 from rfl, h3]; exact h4)
theorem pop_e2 (x : Nat) (hx : x < 18446744073709551616) : IntKind.u64.wrap (bits BinOp.and IntKind.u64 ((x : Int) / 4) 3689348814741910323 + bits BinOp.and IntKind.u64 (x : Int) 3689348814741910323) = ((stepD 2 16 x : Nat) : Int) := by
  have h1 := u64_and_nat (x / 4) 3689348814741910323 (by omega) (by omega)
  have h2 := u64_and_nat x 3689348814741910323 hx (by omega)
  have h3 := step_masks 2 16 x
  have h4 := step_lt 2 (by omega) 16 x
  rw [masks.2.1] at h3
  rw [show (x : Int) / 4 = ((x / 4 : Nat) : Int) by omega]
  refine (congrArg IntKind.u64.wrap (add_cong h1 h2)).trans ?_
  show IntKind.u64.wrap (((x / 4 &&& 3689348814741910323 : Nat) : Int) + ((x &&& 3689348814741910323 : Nat) : Int)) = _
  rw [← Int.natCast_add, ← h3]
  exact wrap_nat _ (by rw [show x / 4 = x / 2 ^ 2 from rfl, h3]; exact h4)
theorem pop_e3 (x y : Nat) (hy : y = stepD 2 16 (stepD 1 32 x)) : bits BinOp.and IntKind.u64 (IntKind.u64.wrap ((y : Int) / 16 + (y : Int))) 1085102592571150095 = ((pop3 x : Nat) : Int) := by
  have h4 := step_lt 2 (by omega) 16 (stepD 1 32 x)
  have h5 := le_step 2 2 (by omega) 16 _ (le_step 1 1 (by omega) 32 x (le_one _ _))
  rw [← hy] at h4 h5
  have h6 := pop3_sum x
  rw [← hy, masks.2.2] at h6
  have h7 : y / 16 + y < 18446744073709551616 := by
    have hb := le_bound 16 y h4 h5
    have e64 : (2 : Nat) ^ (4 * 16) = 18446744073709551616 := by decide
    rw [e64] at hb
    omega
  have h1 := u64_and_nat (y / 16 + y) 1085102592571150095 h7 (by omega)
  rw [show (y : Int) / 16 + (y : Int) = ((y / 16 + y : Nat) : Int) by omega, wrap_nat _ h7]
  exact h1.trans (by rw [h6])
theorem low7 (c d : Nat) (h : c % 128 = d) : bits BinOp.and IntKind.i64 (wrap64 (c : Int)) 127 = (d : Int) := by
  rw [i64_and127]
  unfold wrap64
  omega
theorem fold1 (y k : Nat) (h : y + y / k < 18446744073709551616) : IntKind.u64.wrap ((y : Int) + (y : Int) / (k : Int)) = ((y + y / k : Nat) : Int) := by
  rw [← Int.natCast_ediv, ← Int.natCast_add]; exact wrap_nat _ h
set_option maxHeartbeats 800000 in
theorem pop_c (x : Nat) (w : World) (hx : x < 18446744073709551616) : Calls Try.prog 17 #[.int .u64 (x : Int)] w fun e w' => e = .returned (.int .i64 ((ds 1 64 x : Nat) : Int)) ∧ w' = w := by
  have hx1 : (x : Int) < 18446744073709551616 := by omega
  go_enter Try.func17, Try.ntmps17
  go_wp2
  go_ret
  rw [pop_e1 x hx, pop_e2 _ (step_lt 1 (by omega) 32 x), pop_e3 x _ rfl]
  have h1 := pop3_lt x
  have h2 := folded _ h1 (pop3_le x)
  rw [pop3_ds] at h2
  generalize pop3 x = y at *
  obtain ⟨h2, h3⟩ := h2
  have l2 : y + y / 256 + (y + y / 256) / 65536 < 18446744073709551616 := Nat.lt_of_le_of_lt (Nat.le_add_right _ _) h3
  have l1 : y + y / 256 < 18446744073709551616 := Nat.lt_of_le_of_lt (Nat.le_add_right _ _) l2
  have q1 : IntKind.u64.wrap ((y : Int) + (y : Int) / 256) = ((y + y / 256 : Nat) : Int) := fold1 y 256 l1
  rw [q1]
  generalize y + y / 256 = a at *
  have q2 : IntKind.u64.wrap ((a : Int) + (a : Int) / 65536) = ((a + a / 65536 : Nat) : Int) := fold1 a 65536 l2
  rw [q2]
  generalize a + a / 65536 = b at *
  have q3 : IntKind.u64.wrap ((b : Int) + (b : Int) / 4294967296) = ((b + b / 4294967296 : Nat) : Int) := fold1 b 4294967296 h3
  rw [q3]
  generalize b + b / 4294967296 = c at *
  have q4 := low7 c _ h2
  rw [q4]
  exact ⟨rfl, rfl⟩
set_option maxHeartbeats 800000 in
theorem countE_c (x : Nat) (w : World) (hx : x < 18446744073709551616) : Calls Try.prog 8 #[.int .u64 (x : Int)] w fun e w' => e = .returned (.int .i64 ((ds 1 64 x : Nat) : Int)) ∧ w' = w := by
  have ho := pop_c x w hx
  generalize ds 1 64 x = c at *
  go_enter Try.func8, Try.ntmps8
  go_wp2_with fail
  refine ho.mono ?_
  rintro e w' ⟨rfl, rfl⟩
  clear ho
  go_wp2
  go_ret
  exact ⟨rfl, rfl⟩
end Go.Proofs.Ytieinedancdokah
