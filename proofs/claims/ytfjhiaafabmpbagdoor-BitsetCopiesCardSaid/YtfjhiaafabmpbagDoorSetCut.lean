/-
  A NUMBER TAKEN OUT OF A SET; A SET MADE OF NUMBERS: by contract.
-/
import Derived.Test.YtfjhiaafabmpbagDoorSetAdd
namespace Go.Proofs.YtfjhiaafabmpbagDoor
open Go.ChangeShapes Go.WideShapes Go.ChangeAt Go.RowKit

set_option maxRecDepth 100000 in
set_option maxHeartbeats 1600000 in
theorem setcut_c (b : Nat) (g : Option Nat) (ws : List Nat) (n : Int) (w : World) (hf : Fit ws) (h : SetAt w b g ws) (hi : n ≤ 9223372036854775807) :
    Calls Tryd.prog 9 #[.pointer (some ⟨b, 0, none⟩), .int .i64 n] w fun e w' =>
      e = .returned (.bool (decide (0 ≤ n) && has ws n.toNat)) ∧ ∃ ws', Added (b :: g.toList) w w' b g g ws ws' (fun k => has ws k && !(decide (0 ≤ n) && k == n.toNat)) := by
  have hh := fun w h => has_c b g ws n w hf h hi
  cases hc : (decide (0 ≤ n) && has ws n.toNat) with
  | false =>
    rw [hc] at hh
    have hc := hidden hc
    go_enter Tryd.func9, Tryd.ntmps9
    go_wp2_with fail
    refine (hh _ h).mono ?_
    rintro e w' ⟨rfl, rfl⟩
    clear hh
    go_wp2
    go_ret
    refine ⟨rfl, ws, h, hf, fun k => ?_, Save.refl _ _, fun x hx => .inl hx⟩
    by_cases hk : k = n.toNat
    · subst hk
      have := hc.out
      cases h1 : decide (0 ≤ n) <;> rw [h1] at this <;> simp_all
    · simp [hk]
  | true =>
    rw [hc] at hh
    simp only [Bool.and_eq_true, decide_eq_true_eq] at hc
    obtain ⟨h0, hc⟩ := hc
    obtain ⟨m, rfl⟩ := Int.eq_ofNat_of_zero_le h0
    simp only [Int.toNat_natCast] at hc ⊢
    have hroom : m / 64 < ws.length := by
      rcases Nat.lt_or_ge (m / 64) ws.length with h1 | h1
      · exact h1
      · rw [has_end h1] at hc; cases hc
    have hlen := hf.short
    have hp : 2 ^ (m % 64) < 18446744073709551616 := Nat.pow_lt_pow_right (n := 64) (by omega) (by omega)
    have hs : ∀ w, Calls Tryd.prog 18 #[.int .u64 1, .int .i64 ((m % 64 : Nat) : Int)] w fun e w' => e = .returned (.int .u64 ((2 ^ (m % 64) : Nat) : Int)) ∧ w' = w := fun w => shift_c (m % 64) w (by omega)
    have q1 : (m : Int) / 64 = ((m / 64 : Nat) : Int) := by omega
    have q2 : (m : Int) % 64 = ((m % 64 : Nat) : Int) := by omega
    have q3 : (m : Int).tmod 64 = ((m % 64 : Nat) : Int) := by rw [Int.tmod_eq_emod_of_nonneg (by omega)]; omega
    have q4 : (m : Int).tdiv 64 = ((m / 64 : Nat) : Int) := by rw [Int.tdiv_eq_ediv_of_nonneg (by omega)]; omega
    have hnew := hidden fun k => has_set_not ws m k hroom
    have hd : decide ((0 : Int) ≤ (m : Int)) = true := by simp
    simp only [hd, Bool.true_and]
    clear hc h0 hd
    generalize m / 64 = i at *
    generalize 2 ^ (m % 64) = y at *
    generalize m % 64 = r at *
    have e1 : wrap64 (i : Int) = i := IntWalk.wrap64_in _ (by omega)
    have e3 : IntKind.i64.wrap (i : Int) = i := IntWalk.i64_in _ (by omega)
    have hi0 : (0 : Int) ≤ (i : Int) := by omega
    cases g with
    | none => have := h.empty rfl; subst this; simp at hroom
    | some g =>
      have hr2 : (i : Int) < (ws.length : Int) := by omega
      have hx := hf.at i
      have c0 := h.cell0
      simp only [rowV] at c0
      have c1 := h.cell i hroom
      have z1 := h.frozen i
      have hor := u64_andNot_nat _ _ hx hp
      have hput := hidden (h.drew.put i (ws.getD i 0 &&& (18446744073709551615 - y)))
      have hfit := hidden (hf.set i (ws.getD i 0 &&& (18446744073709551615 - y)) (Nat.lt_of_le_of_lt Nat.and_le_left hx))
      generalize ws.getD i 0 &&& (18446744073709551615 - y) = z at *
      generalize ws.getD i 0 = x at *
      clear hx hp hlen hi
      go_enter Tryd.func9, Tryd.ntmps9
      go_wp2_with fail
      refine (hh _ h).mono ?_
      rintro e w' ⟨rfl, rfl⟩
      clear hh
      go_wp2_with fail
      obtain ⟨w2, hw2⟩ : ∃ w2, w2 = w'.drew := ⟨_, rfl⟩
      rw [← hw2] at hput
      have c0 : w2.cell? ⟨b, 0, none⟩ = some (.slice (some ⟨g, 0, none⟩) ws.length ws.length) := by rw [hw2]; exact c0
      have c1 : w2.cell? ⟨g, i, none⟩ = some (.int .u64 (x : Int)) := by rw [hw2]; exact c1
      have z1 : w2.frozen? ⟨g, i, none⟩ = false := by rw [hw2]; exact z1
      have hsv : Save (b :: [g]) w' w2 := by rw [hw2]; exact ⟨rfl, rfl, rfl, Nat.le_refl _, fun _ _ _ => rfl⟩
      refine still_tail2 13 (by kernel_rfl) (by kernel_rfl) w2 hw2 ?_
      clear hw2
      simp only [List.take_succ_cons, List.take_zero, List.drop_succ_cons, List.drop_zero]
      repeat still_step
      still_call (hs _)
      repeat still_step
      refine wpStill_nil ?_
      clear hs
      go_wp2
      go_ret
      exact ⟨rfl, ws.set i z, hput.out.1, hfit.out, hnew.out, hsv.trans hput.out.2, fun x hx => .inl hx⟩

end Go.Proofs.YtfjhiaafabmpbagDoor
