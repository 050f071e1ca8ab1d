/-
  PLACES OF BITS, as the reference tells them, by contract.
-/
import Derived.Test.YtieinedancdokahPlaces
namespace Go.Proofs.Ytieinedancdokah
open Go.ChangeShapes Go.WideShapes Go.ChangeAt Go.RowKit

theorem hidden0 {p : Prop} (h : p) : Hid p := h
theorem ds_bound : ∀ n x, ds 1 n x ≤ n
  | 0, _ => Nat.le_refl _
  | n + 1, x => by
    have := ds_bound n (x / 2 ^ 1)
    have := Nat.mod_lt x (show 0 < 2 ^ 1 by omega)
    rw [ds]; omega
set_option maxHeartbeats 800000 in
theorem rwide_c (n : Int) (w : World) : Calls Try.prog 4 #[.int .i64 n, .int .i64 0] w fun e w' => e = .returned (.int .i64 (wideN n : Nat)) ∧ w' = w := by
  by_cases h0 : n < 0
  · have hw : wideN n = 0 := by unfold wideN; omega
    rw [hw]
    go_enter Try.func4, Try.ntmps4
    go_wp2
    go_ret
    exact ⟨rfl, rfl⟩
  · by_cases h1 : 64 < n
    · have hw : wideN n = 64 := by unfold wideN; omega
      rw [hw]
      go_enter Try.func4, Try.ntmps4
      go_wp2
      go_ret
      exact ⟨rfl, rfl⟩
    · have hw : Hid (((wideN n : Nat) : Int) = n) := by show _ = _; unfold wideN; omega
      rw [hw.out]
      go_enter Try.func4, Try.ntmps4
      go_wp2
      go_ret
      exact ⟨rfl, rfl⟩
set_option maxHeartbeats 800000 in
theorem rlog_c (u : Nat) (w : World) (hu : u < 18446744073709551616) : Calls Try.prog 7 #[.int .u64 (u : Int)] w fun e w' => e = .returned (.int .i64 ((Lib.bitLen u : Int) - 1)) ∧ w' = w := by
  have hb := Lib.bitLen_le u 64 (by decide) hu
  obtain ⟨B, hB⟩ : ∃ B, Hid (B = Lib.bitLen u) := ⟨_, (rfl : _ = _)⟩
  rw [← hB.out] at hb ⊢
  go_enter Try.func7, Try.ntmps7
  go_wp2_with fail
  go_loop [0, 3] (fun x n => ∃ (y C : Nat), y < 18446744073709551616 ∧ x = .int .u64 (y : Int) ∧ n = .int .i64 ((C : Int) - 1) ∧ C ≤ 64 ∧ Hid (Lib.bitLen y + C = B)) (fun x _ => (intOf x).toNat)
  case atStart => exact ⟨u, 0, hu, rfl, rfl, by omega, by show _ = _; rw [hB.out]; rfl⟩
  case round =>
    obtain ⟨y, C, hy, rfl, rfl, hC, hyC⟩ := hrel
    by_cases h0 : y = 0
    · subst h0
      have e : Hid (C = B) := by
        have := hyC.out
        rw [show Lib.bitLen 0 = 0 from by decide] at this
        show _ = _; omega
      go_wp2
      go_ret
      exact ⟨by rw [← e.out]; rfl, rfl⟩
    · have h1 : (0 : Int) < (y : Int) := by omega
      have h2 := Lib.bitLen_half y h0 hy
      have h3 : Hid (Lib.bitLen (y / 2) + (C + 1) = B) := by have := hyC.out; show _ = _; omega
      have hle : C + 1 ≤ 64 := by have := hyC.out; omega
      have hq : (y : Int) / 2 = ((y / 2 : Nat) : Int) := by omega
      have hq2 := hidden0 (Nat.div_lt_self (show 0 < y by omega) (show 1 < 2 by omega))
      clear h2 hyC h0
      generalize y / 2 = z at *
      have hC0 : (0 : Int) ≤ (C : Int) := by omega
      have hC1 : (C : Int) ≤ 63 := by omega
      go_wp2
      go_round
      case rel => exact ⟨z, C + 1, by have := hq2.out; omega, by first | rfl | rw [hq], by congr 1; omega, hle, h3⟩
      case measure =>
        have := hq2.out
        simp [intOf]; omega
set_option maxHeartbeats 800000 in
theorem rcount_c (u : Nat) (w : World) (hu : u < 18446744073709551616) : Calls Try.prog 9 #[.int .u64 (u : Int)] w fun e w' => e = .returned (.int .i64 ((ds 1 64 u : Nat) : Int)) ∧ w' = w := by
  have hle := ds_bound 64 u
  obtain ⟨B, hB⟩ : ∃ B, Hid (B = ds 1 64 u) := ⟨_, (rfl : _ = _)⟩
  rw [← hB.out] at hle ⊢
  have h00 : Hid (ds 1 64 u + 0 = B) := by show _ + 0 = _; rw [Nat.add_zero]; exact hB.out.symm
  have hd0 : Hid (ds 1 64 0 = 0) := by show _ = _; decide
  have hdn : Hid (∀ y, y < 18446744073709551616 → ds 1 64 y = y % 2 + ds 1 64 (y / 2)) := fun y hy => by
    have h1 : ds 1 (63 + 1) (y / 2) = ds 1 63 (y / 2) := ds_more (y / 2) 63 (by omega)
    have h2 : ds 1 (63 + 1) y = y % 2 ^ 1 + ds 1 63 (y / 2 ^ 1) := by rw [ds]
    exact h2.trans (by rw [Nat.pow_one, ← h1])
  obtain ⟨D, hD⟩ : ∃ D : Nat → Nat, Hid (D = ds 1 64) := ⟨_, (rfl : _ = _)⟩
  rw [← hD.out] at h00 hd0 hdn
  clear hD hB
  go_enter Try.func9, Try.ntmps9
  go_wp2_with fail
  go_loop [0, 3] (fun x n => ∃ (y C : Nat), y < 18446744073709551616 ∧ x = .int .u64 (y : Int) ∧ n = .int .i64 (C : Int) ∧ C ≤ 64 ∧ Hid (D y + C = B)) (fun x _ => (intOf x).toNat)
  case atStart => exact ⟨u, 0, hu, rfl, rfl, by omega, h00⟩
  case round =>
    obtain ⟨y, C, hy, rfl, rfl, hC, hyC⟩ := hrel
    by_cases h0 : y = 0
    · subst h0
      have e : Hid (C = B) := by
        have := hyC.out
        rw [hd0.out] at this
        show _ = _; omega
      go_wp2
      go_ret
      exact ⟨by rw [← e.out]; rfl, rfl⟩
    · have h1 : (0 : Int) < (y : Int) := by omega
      have h2 := hdn.out y hy
      have h3 : Hid (D (y / 2) + (C + y % 2) = B) := by have := hyC.out; show _ = _; omega
      have hle2 : C + y % 2 ≤ 64 := by have := hyC.out; omega
      have hq : (y : Int) / 2 = ((y / 2 : Nat) : Int) := by omega
      have hr : (y : Int) % 2 = ((y % 2 : Nat) : Int) := by omega
      have hr2 : y % 2 < 2 := by omega
      have hq2 := hidden0 (Nat.div_lt_self (show 0 < y by omega) (show 1 < 2 by omega))
      clear h2 hyC h0
      generalize y / 2 = z at *
      generalize y % 2 = r at *
      have hC0 : (0 : Int) ≤ (C : Int) := by omega
      have hC1 : (C : Int) + (r : Int) ≤ 64 := by omega
      have hr3 : (r : Int) < 2 := by omega
      go_wp2
      go_round
      case rel => exact ⟨z, C + r, by have := hq2.out; omega, by first | rfl | rw [hq], by first | rfl | go_num, by omega, h3⟩
      case measure =>
        have := hq2.out
        simp [intOf]; omega
set_option maxHeartbeats 800000 in
theorem rbit_c (u k : Nat) (w : World) (hu : u < 18446744073709551616) (hk : k ≤ 64) : Calls Try.prog 18 #[.int .u64 (u : Int), .int .i64 (k : Int)] w fun e w' => e = .returned (.int .u64 ((u / 2 ^ k % 2 : Nat) : Int)) ∧ w' = w := by
  go_enter Try.func18, Try.ntmps18
  go_wp2_with fail
  go_loop [0, 5] (fun x i => ∃ (y j : Nat), y < 18446744073709551616 ∧ x = .int .u64 (y : Int) ∧ i = .int .i64 (j : Int) ∧ j ≤ k ∧ Hid (y = u / 2 ^ j)) (fun _ i => k - (intOf i).toNat)
  case atStart => exact ⟨u, 0, hu, rfl, rfl, by omega, by show _ = _; simp⟩
  case round =>
    obtain ⟨y, j, hy, rfl, rfl, hj, hyj⟩ := hrel
    by_cases hlt : j < k
    · have hj1 : (j : Int) < (k : Int) := by omega
      have hq : (y : Int) / 2 = ((y / 2 : Nat) : Int) := by omega
      have hn : Hid (y / 2 = u / 2 ^ (j + 1)) := by
        show _ = _
        rw [hyj.out, Nat.div_div_eq_div_mul, Nat.pow_succ]
      have hz : Hid (y / 2 < 18446744073709551616) := by show _ < _; omega
      have hy0 : (0 : Int) ≤ (y : Int) := by omega
      have hy1 : (y : Int) < 18446744073709551616 := by omega
      generalize y / 2 = z at *
      go_wp2
      go_round
      case rel => exact ⟨z, j + 1, hz.out, by first | rfl | rw [hq], by go_num, by omega, hn⟩
      case measure => simp [intOf]; omega
    · obtain rfl : j = k := by omega
      have hj1 : ¬ (j : Int) < (j : Int) := by omega
      have hq : (y : Int) % 2 = ((y % 2 : Nat) : Int) := by omega
      have hy0 : (0 : Int) ≤ (y : Int) := by omega
      have hy1 : (y : Int) < 18446744073709551616 := by omega
      have hfin : Hid (u / 2 ^ j % 2 = y % 2) := by show _ = _; rw [hyj.out]
      generalize y % 2 = r at *
      go_wp2
      go_ret
      exact ⟨by first | rfl | (rw [hfin.out]; rfl) | (rw [← hfin.out]; rfl) | (show Ending.returned (Value.int IntKind.u64 (r : Int)) = _; rw [← hfin.out]; simp), rfl⟩
set_option maxHeartbeats 800000 in
theorem rturn_c (u k : Nat) (w : World) (hu : u < 18446744073709551616) (hk : k ≤ 64) : Calls Try.prog 12 #[.int .u64 (u : Int), .int .i64 (k : Int)] w fun e w' => e = .returned (.int .u64 ((turnN u k : Nat) : Int)) ∧ w' = w := by
  have hbit := hidden0 fun j w (h : j ≤ 64) => rbit_c u j w hu h
  go_enter Try.func12, Try.ntmps12
  go_wp2_with fail
  go_loop [5, 6] (fun x i => ∃ j : Nat, x = .int .u64 ((turnN u j : Nat) : Int) ∧ i = .int .i64 (j : Int) ∧ j ≤ k) (fun _ i => k - (intOf i).toNat)
  case atStart => exact ⟨0, rfl, rfl, by omega⟩
  case round =>
    obtain ⟨j, rfl, rfl, hj⟩ := hrel
    by_cases hlt : j < k
    · have hj1 : (j : Int) < (k : Int) := by omega
      have hb := fun w => hbit.out j w (by omega)
      have ht : Hid (turnN u (j + 1) = 2 * turnN u j + u / 2 ^ j % 2) := (rfl : _ = _)
      have hl : turnN u (j + 1) < 18446744073709551616 := Nat.lt_of_lt_of_le (turn_lt u (j + 1)) (Nat.pow_le_pow_right (by omega) (show j + 1 ≤ 64 by omega))
      rw [ht.out] at hl
      generalize turnN u j = T at *
      generalize u / 2 ^ j % 2 = r at *
      have hl1 : 2 * (T : Int) + (r : Int) < 18446744073709551616 := by omega
      have hl2 : 2 * (T : Int) < 18446744073709551616 := by omega
      have hT0 : (0 : Int) ≤ (T : Int) := by omega
      clear hl
      go_wp2_with fail
      refine (hb _).mono ?_
      rintro e w' ⟨rfl, rfl⟩
      clear hb
      go_wp2
      go_round
      case rel => exact ⟨j + 1, by rw [ht.out]; first | rfl | go_num, by go_num, by omega⟩
      case measure => simp [intOf]; omega
    · obtain rfl : j = k := by omega
      have hj1 : ¬ (j : Int) < (j : Int) := by omega
      clear hbit
      go_wp2
      go_ret
      exact ⟨rfl, rfl⟩
theorem up_step (u i : Nat) (U : Int) (h : U = ((u * 2 ^ i % 18446744073709551616 : Nat) : Int)) : IntKind.u64.wrap (2 * U) = ((u * 2 ^ (i + 1) % 18446744073709551616 : Nat) : Int) := by
  rw [IntKind.wrap_u64, h, Nat.pow_succ, ← Nat.mul_assoc]
  generalize u * 2 ^ i = A
  omega
set_option maxHeartbeats 1600000 in
theorem rshift_c (u : Nat) (n : Int) (w : World) (hu : u < 18446744073709551616) (hn : -9223372036854775808 ≤ n) (hn9 : n ≤ 9223372036854775807) : Calls Try.prog 11 #[.int .u64 (u : Int), .int .i64 n] w fun e w' => e = .returned (.int .u64 ((shiftN u n : Nat) : Int)) ∧ w' = w := by
  by_cases h3 : 0 ≤ n
  · have hfin : Hid (shiftN u n = u * 2 ^ wideN n % 18446744073709551616) := by show _ = _; unfold shiftN; rw [if_pos h3]
    obtain ⟨F, hF⟩ : ∃ F, Hid (shiftN u n = F) := ⟨_, (rfl : _ = _)⟩
    rw [hF.out]
    have hneg : ¬ (0 : Int) < -n := by omega
    have hneg2 : IntKind.i64.wrap (-n) = -n := IntWalk.i64_in _ (by omega)
    have hlow : ¬ n < -64 := by omega
    have hwn : Hid ((wideN n : Int) = min n 64) := by show _ = _; unfold wideN; omega
    go_enter Try.func11, Try.ntmps11
    go_wp2_with fail
    go_loop [0, 5] (fun x i => ∃ j : Nat, x = .int .u64 ((u * 2 ^ j % 18446744073709551616 : Nat) : Int) ∧ i = .int .i64 (j : Int) ∧ j ≤ wideN n) (fun _ i => 64 - (intOf i).toNat)
    case atStart => exact ⟨0, by simp; omega, rfl, by omega⟩
    case round =>
      obtain ⟨j, rfl, rfl, hj⟩ := hrel
      by_cases hlt : j < 64 ∧ (j : Int) < n
      · obtain ⟨hj6, hjn⟩ := hlt
        have hj1 : (j : Int) < 64 := by omega
        have hst := up_step u j _ rfl
        have hle : Hid (j + 1 ≤ wideN n) := by have := hwn.out; show _ ≤ _; omega
        obtain ⟨S, hS⟩ : ∃ S, Hid (u * 2 ^ (j + 1) % 18446744073709551616 = S) := ⟨_, (rfl : _ = _)⟩
        rw [hS.out] at hst
        generalize u * 2 ^ j % 18446744073709551616 = T at *
        clear hj
        go_wp2
        go_round
        case rel => exact ⟨j + 1, by rw [hS.out], by go_num, hle.out⟩
        case measure => simp [intOf]; omega
      · have hjw : Hid (j = wideN n) := by have := hwn.out; show _ = _; omega
        have hT : Hid (F = u * 2 ^ j % 18446744073709551616) := by show _ = _; rw [← hF.out, hfin.out, ← hjw.out]
        generalize u * 2 ^ j % 18446744073709551616 = T at *
        by_cases hj6 : j < 64
        · have hj1 : (j : Int) < 64 := by omega
          have hj2 : ¬ (j : Int) < n := fun h => hlt ⟨hj6, h⟩
          clear hlt
          go_wp2_with fail
          go_loop [0, 6] (fun x i => x = .int .u64 (T : Int) ∧ i = .int .i64 0) (fun _ _ => 0)
          case atStart => exact ⟨rfl, rfl⟩
          case round =>
            obtain ⟨rfl, rfl⟩ := hrel
            go_wp2
            go_ret
            exact ⟨by first | (rw [hT.out]; rfl) | (rw [hT.out]), rfl⟩
        · have hj1 : ¬ (j : Int) < 64 := by omega
          clear hlt
          go_wp2_with fail
          go_loop [0, 6] (fun x i => x = .int .u64 (T : Int) ∧ i = .int .i64 0) (fun _ _ => 0)
          case atStart => exact ⟨rfl, rfl⟩
          case round =>
            obtain ⟨rfl, rfl⟩ := hrel
            go_wp2
            go_ret
            exact ⟨by first | (rw [hT.out]; rfl) | (rw [hT.out]), rfl⟩
  · have hfin : Hid (shiftN u n = u / 2 ^ wideN (-n)) := by show _ = _; unfold shiftN; rw [if_neg h3]
    have h0n : ¬ (0 : Int) < n := by omega
    by_cases hmin : n = -9223372036854775808
    · have hz : shiftN u n = 0 := shift_down u _ hu (by omega)
      rw [hz]
      have hw1 : wrap64 (-n) = n := by rw [hmin]; unfold wrap64; omega
      have hw2 : IntKind.i64.wrap (-n) = n := by rw [hmin, IntKind.wrap_i64]; omega
      have hlow : n < -64 := by omega
      replace hmin := hidden0 hmin
      clear hfin hz hn hn9
      go_enter Try.func11, Try.ntmps11
      go_wp2_with fail
      go_loop [0, 5] (fun x i => x = .int .u64 (u : Int) ∧ i = .int .i64 0) (fun _ _ => 0)
      case atStart => exact ⟨rfl, rfl⟩
      case round =>
        obtain ⟨rfl, rfl⟩ := hrel
        go_wp2_with fail
        go_loop [0, 6] (fun x i => x = .int .u64 (u : Int) ∧ i = .int .i64 0) (fun _ _ => 0)
        case atStart => exact ⟨rfl, rfl⟩
        case round =>
          obtain ⟨rfl, rfl⟩ := hrel
          go_wp2
          go_ret
          exact ⟨rfl, rfl⟩
    · obtain ⟨m, hm⟩ : ∃ m : Nat, -n = (m : Int) := ⟨(-n).toNat, by omega⟩
      have hm9 : (m : Int) ≤ 9223372036854775807 := by omega
      have hwm : Hid (wideN (-n) = min m 64) := by show _ = _; unfold wideN; omega
      have hlown : Hid (n < -64 ↔ 64 < m) := by show _ ↔ _; omega
      have hbig : Hid (64 ≤ m → shiftN u n = 0) := fun h => shift_down u n hu (by omega)
      have hwr : IntKind.i64.wrap (m : Int) = (m : Int) := IntWalk.i64_in _ (by omega)
      go_enter Try.func11, Try.ntmps11
      go_wp2_with fail
      go_loop [0, 5] (fun x i => x = .int .u64 (u : Int) ∧ i = .int .i64 0) (fun _ _ => 0)
      case atStart => exact ⟨rfl, rfl⟩
      case round =>
        obtain ⟨rfl, rfl⟩ := hrel
        go_wp2_with fail
        go_loop [0, 6] (fun x i => ∃ j : Nat, x = .int .u64 ((u / 2 ^ j : Nat) : Int) ∧ i = .int .i64 (j : Int) ∧ j ≤ min m 64) (fun _ i => 64 - (intOf i).toNat)
        case atStart => exact ⟨0, by rw [Nat.pow_zero, Nat.div_one], rfl, by omega⟩
        case round =>
          obtain ⟨j, rfl, rfl, hj⟩ := hrel
          by_cases hlt : j < 64 ∧ j < m
          · obtain ⟨hj6, hjm⟩ := hlt
            have hj1 : (j : Int) < 64 := by omega
            have hj2 : (j : Int) < (m : Int) := by omega
            have hd : u / 2 ^ j / 2 = u / 2 ^ (j + 1) := by rw [Nat.div_div_eq_div_mul, Nat.pow_succ]
            have hTl : u / 2 ^ j < 18446744073709551616 := Nat.lt_of_le_of_lt (Nat.div_le_self _ _) hu
            obtain ⟨S, hS⟩ : ∃ S, Hid (u / 2 ^ (j + 1) = S) := ⟨_, (rfl : _ = _)⟩
            rw [hS.out] at hd
            generalize u / 2 ^ j = T at *
            have hq : (T : Int) / 2 = (S : Int) := by omega
            have hT0 : (0 : Int) ≤ (T : Int) := by omega
            have hT1 : (T : Int) < 18446744073709551616 := by omega
            clear hd hTl
            go_wp2
            go_round
            case rel => exact ⟨j + 1, by first | (rw [hS.out]; done) | (rw [hS.out]; rfl) | rw [hS.out, hq], by go_num, by omega⟩
            case measure => simp [intOf]; omega
          · have hjw : Hid (j = min m 64) := by show _ = _; omega
            by_cases hm6 : 64 < m
            · have hz := hbig.out (by omega)
              have hlow : n < -64 := hlown.out.2 hm6
              have hj1 : ¬ (j : Int) < 64 := by have := hjw.out; omega
              replace hz := hidden0 hz
              clear hlt
              go_wp2
              go_ret
              exact ⟨by rw [hz.out]; rfl, rfl⟩
            · have hlow : ¬ n < -64 := fun h => hm6 (hlown.out.1 h)
              have hj2 : ¬ (j : Int) < (m : Int) := by have := hjw.out; omega
              have hTf : Hid (shiftN u n = u / 2 ^ j) := by show _ = _; rw [hfin.out, hwm.out, ← hjw.out]
              generalize u / 2 ^ j = T at *
              by_cases hj6 : j < 64
              · have hj1 : (j : Int) < 64 := by omega
                clear hlt
                go_wp2
                go_ret
                exact ⟨by rw [hTf.out]; rfl, rfl⟩
              · have hj1 : ¬ (j : Int) < 64 := by omega
                clear hlt
                go_wp2
                go_ret
                exact ⟨by rw [hTf.out]; rfl, rfl⟩
end Go.Proofs.Ytieinedancdokah
