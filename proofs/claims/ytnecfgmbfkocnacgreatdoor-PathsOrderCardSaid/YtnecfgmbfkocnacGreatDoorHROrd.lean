/-
  ROWS OF HOPS HELD AGAINST EACH OTHER: the reference's, by contract.
-/
import Derived.Test.YtnecfgmbfkocnacGreatDoorHOrd
namespace Go.Proofs.YtnecfgmbfkocnacGreatDoor
open Go.ChangeShapes Go.WideShapes Go.ChangeAt Go.RowKit

theorem cmpI_lt {a b : Int} (h : a < b) : cmpI a b = -1 := if_pos h
theorem cmpI_gt {a b : Int} (h : b < a) : cmpI a b = 1 := by unfold cmpI; rw [if_neg (by omega), if_pos h]
theorem cmpI_eq (a : Int) : cmpI a a = 0 := by unfold cmpI; rw [if_neg (by omega), if_neg (by omega)]
theorem hcmp_lt {a b : Int} {p q : Bool} (h : a < b) : hcmp (a, p) (b, q) = -1 := (if_pos (.inl (show a ≠ b by omega))).trans (cmpI_lt h)
theorem hcmp_gt {a b : Int} {p q : Bool} (h : b < a) : hcmp (a, p) (b, q) = 1 := (if_pos (.inl (show a ≠ b by omega))).trans (cmpI_gt h)
theorem hcmp_eq (a : Int) (p : Bool) : hcmp (a, p) (a, p) = 0 := (if_pos (.inr rfl)).trans (cmpI_eq a)
theorem hcmp_ft (a : Int) : hcmp (a, false) (a, true) = -1 := by simp [hcmp]
theorem hcmp_tf (a : Int) : hcmp (a, true) (a, false) = 1 := by simp [hcmp]
set_option maxHeartbeats 3200000 in
set_option maxRecDepth 100000 in
theorem hrord_c (va vb : Value) (xs ys : List Hop) (w : World) (hva : SlR hopR w va xs) (hvb : SlR hopR w vb ys) (hx : xs.length ≤ 1000) (hy : ys.length ≤ 1000) :
    Calls Tryz.prog 6 #[va, vb] w fun e w' => e = .returned (.int .i64 (gcmp hcmp xs ys)) ∧ Below w.heap.size w w' := by
  obtain ⟨a, cap, rfl, -, -, -, hra⟩ := hva
  obtain ⟨b, cap', rfl, -, -, -, hrb⟩ := hvb
  go_enter Tryz.func6, Tryz.ntmps6
  go_wp2
  go_loopw [5] (fun i wr => ∃ k : Nat, k ≤ xs.length ∧ k ≤ ys.length ∧ i = .int .i64 k ∧ Hid (∀ j, j < k → hcmp (xs.getD j (0, false)) (ys.getD j (0, false)) = 0) ∧ Hid (Below w.heap.size w wr))
    (fun i _ => xs.length - (intOf i).toNat)
  case atStart => exact ⟨0, Nat.zero_le _, Nat.zero_le _, rfl, fun j hj => by omega, Below.refl _ _⟩
  case round =>
    obtain ⟨k, hk, hk2, rfl, ht, hnx⟩ := hrel
    by_cases hlt : k < xs.length ∧ k < ys.length
    · obtain ⟨hlt1, hlt2⟩ := hlt
      obtain ⟨b1, o1, rfl, hb1, c0, c1⟩ := hop_at (hra.below hnx.out) hlt1
      obtain ⟨b2, o2, rfl, hb2, d0, d1⟩ := hop_at (hrb.below hnx.out) hlt2
      have hno := hidden fun h => gcmp_ne (f := hcmp) (0, false) k hlt1 hlt2 ht.out h
      have hok := hidden fun h => all_next (f := hcmp) (d := (0, false)) ht.out h
      generalize xs.getD k (0, false) = x at *
      generalize ys.getD k (0, false) = y at *
      obtain ⟨xe, xb⟩ := x
      obtain ⟨ye, yb⟩ := y
      simp only at c0 c1 d0 d1
      replace hra := hidden hra
      replace hrb := hidden hrb
      have hj1 : (k : Int) < (xs.length : Int) := by omega
      have hj3 : (k : Int) < (ys.length : Int) := by omega
      rcases Int.lt_trichotomy xe ye with h | h | h
      · -- less
        have hno2 : Hid (gcmp hcmp xs ys = -1) := (hno.out (by rw [(hcmp_lt h)]; decide)).trans (hcmp_lt h)
        clear hok hno
        go_wp2
        go_quiet (fail)
        go_wp2
        go_ret
        exact ⟨by rw [hno2.out]; first | done | rfl, below_drewN hnx.out _⟩
      · subst h
        cases xb <;> cases yb
        · have hok2 := hidden (hok.out (hcmp_eq _ _))
          clear hok hno
          go_wp2
          go_quiet (fail)
          go_wp2
          go_quiet (fail)
          go_wp2
          go_roundw
          case rel => exact ⟨k + 1, by omega, by omega, by go_num, hok2, below_drewN hnx.out _⟩
          case measure => simp [intOf]; omega
        · have hno2 : Hid (gcmp hcmp xs ys = -1) := (hno.out (by rw [(hcmp_ft _)]; decide)).trans (hcmp_ft _)
          clear hok hno
          go_wp2
          go_quiet (fail)
          go_wp2
          go_ret
          exact ⟨by rw [hno2.out]; first | done | rfl, below_drewN hnx.out _⟩
        · have hno2 : Hid (gcmp hcmp xs ys = 1) := (hno.out (by rw [(hcmp_tf _)]; decide)).trans (hcmp_tf _)
          clear hok hno
          go_wp2
          go_quiet (fail)
          go_wp2
          go_quiet (fail)
          go_wp2
          go_ret
          exact ⟨by rw [hno2.out]; first | done | rfl, below_drewN (below_drewN hnx.out _) _⟩
        · have hok2 := hidden (hok.out (hcmp_eq _ _))
          clear hok hno
          go_wp2
          go_quiet (fail)
          go_wp2
          go_quiet (fail)
          go_wp2
          go_roundw
          case rel => exact ⟨k + 1, by omega, by omega, by go_num, hok2, below_drewN hnx.out _⟩
          case measure => simp [intOf]; omega
      · have g1 : ¬ xe < ye := by omega
        have g2 : (xe == ye) = false := beq_eq_false_iff_ne.2 (by omega)
        have g3 : (xe != ye) = true := bne_iff_ne.2 (by omega)
        have hno2 : Hid (gcmp hcmp xs ys = 1) := (hno.out (by rw [(hcmp_gt h)]; decide)).trans (hcmp_gt h)
        clear hok hno
        go_wp2
        go_quiet (fail)
        go_wp2
        go_quiet (fail)
        go_wp2
        go_ret
        exact ⟨by rw [hno2.out]; first | done | rfl, below_drewN (below_drewN hnx.out _) _⟩
    · replace hra := hidden hra
      replace hrb := hidden hrb
      by_cases hlt1 : k < xs.length
      · obtain rfl : k = ys.length := by omega
        have hr := hidden (gcmp_long (f := hcmp) (0, false) hlt1 ht.out)
        have hj1 : (ys.length : Int) < (xs.length : Int) := by omega
        have hj2 : ¬ (xs.length : Int) < (ys.length : Int) := by omega
        clear ht hlt
        go_wp2
        go_ret
        exact ⟨by rw [hr.out]; first | done | rfl, hnx.out⟩
      · obtain rfl : k = xs.length := by omega
        by_cases hl : xs.length < ys.length
        · have hr := hidden (gcmp_short (f := hcmp) (0, false) hl ht.out)
          have hj1 : (xs.length : Int) < (ys.length : Int) := by omega
          clear ht hlt
          go_wp2
          go_ret
          exact ⟨by rw [hr.out]; first | done | rfl, hnx.out⟩
        · have hr := hidden (gcmp_eq (f := hcmp) (0, false) (by omega) ht.out)
          have hj1 : ¬ (xs.length : Int) < (ys.length : Int) := by omega
          have hj2 : ¬ (ys.length : Int) < (xs.length : Int) := by omega
          clear ht hlt
          go_wp2
          go_ret
          exact ⟨by rw [hr.out]; first | done | rfl, hnx.out⟩
end Go.Proofs.YtnecfgmbfkocnacGreatDoor
