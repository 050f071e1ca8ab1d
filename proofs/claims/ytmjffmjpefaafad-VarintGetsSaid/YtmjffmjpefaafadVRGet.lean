/-
  THE REFERENCE's Get, by the same contract as the program's.
-/
import Derived.Test.YtmjffmjpefaafadVGet
import Derived.Test.YtmjffmjpefaafadVPut
namespace Go.Proofs.Ytmjffmjpefaafad
open Go.ChangeShapes Go.WideShapes Go.ChangeAt Go.RowKit

theorem back_yes (L : List UInt8) {k : Nat} (c : UInt8) (hk : k ≤ 9) (hl : L.length = k) (ha : ∀ x ∈ L, 128 ≤ x.toNat) (hc : c.toNat < 128) (h : ¬ (c.toNat = 0 ∧ 0 < k)) : putF 11 (val (L ++ [c])) = L ++ [c] :=
  put_val L c ⟨ha, hc⟩ 10 (by omega) (by
    rcases Nat.eq_zero_or_pos k with h0 | h0
    · left; exact List.eq_nil_of_length_eq_zero (by omega)
    · right; omega)
theorem back_no (L : List UInt8) {k : Nat} (c : UInt8) (hk : k ≤ 9) (hl : L.length = k) (h : c.toNat = 0 ∧ 0 < k) : putF 11 (val (L ++ [c])) ≠ L ++ [c] := by
  have hc : c = 0 := UInt8.toNat_inj.1 (by simpa using h.1)
  subst hc
  refine putF_last 11 _ (Nat.lt_of_lt_of_le (val_lt _) (Nat.pow_le_pow_right (by decide) (by simp; omega))) L (fun e => by rw [e] at hl; simp at hl; omega)
theorem ref_step {k b u v : Nat} (hk : k ≤ 9) (hb : k = 9 → b ≤ 1) (hu : u < 128 ^ k) (hv : v = u + b % 128 * 128 ^ k) :
    (v : Int) = (u : Int) + (b : Int) % 128 * ((128 ^ k : Nat) : Int) ∧ v < 18446744073709551616 := by
  have := (or_step hk hb hu hv).2
  refine ⟨?_, this⟩
  rw [hv]; push_cast; rfl

theorem neq_str (a : List UInt8) (t : ByteArray) (W : World) : (binOp .neq 9 (str a) (.string t)).run Try.prog W = .ok (.bool (decide (a ≠ t.data.toList))) W := by
  unfold str
  go_simp
  rw [Go.ByteArray.toList_eq]
  rw [Bool.eq_iff_iff]; simp
theorem guard_str (x y : Operand) (a : List UInt8) (t : ByteArray) (W : World) : (eqGuard .neq 9 x y (str a) (.string t)).run Try.prog W = .ok () W := by
  unfold str
  go_simp
theorem extract_take (s : ByteArray) (n : Nat) : (s.extract 0 n).data.toList = s.data.toList.take n := by
  rw [ByteArray.data_extract]
  simp

set_option maxHeartbeats 800000 in
set_option maxRecDepth 100000 in
theorem rget_c (s : ByteArray) (w : World) (hs : s.size ≤ 9223372036854775807) :
    Calls Try.prog 6 #[.string s] w fun e w' => e = .returned (tupR (getS s.data.toList)) ∧ Below w.heap.size w w' := by
  have hR0 : Hid (getS s.data.toList = getAt s.data.toList 0) := rfl
  generalize getS s.data.toList = R at *
  go_enter Try.func6, Try.ntmps6
  go_wp2
  go_loop [5, 6, 7] (fun u p i => ∃ k : Nat, ∃ P : Int, k ≤ 10 ∧ k ≤ s.size ∧ i = .int .i64 k ∧ u = .int .u64 (val (s.data.toList.take k) : Nat) ∧ p = .int .u64 P ∧ Hid (k ≤ 9 → P = ((128 ^ k : Nat) : Int)) ∧ Hid ((∀ x ∈ s.data.toList.take k, 128 ≤ x.toNat) ∧ R = getAt s.data.toList k))
    (fun _ _ i => 10 - (intOf i).toNat)
  case atStart => exact ⟨0, 1, by omega, by omega, rfl, rfl, rfl, fun _ => rfl, ⟨fun x hx => by simp at hx, hR0.out⟩⟩
  case round =>
    obtain ⟨k, P, hk, hks0, rfl, rfl, rfl, hP, hH⟩ := hrel
    by_cases hlt : k < 10 ∧ k < s.size
    · obtain ⟨hk1, hk2⟩ := hlt
      have hPk : P = ((128 ^ k : Nat) : Int) := hP.out (by omega)
      have hw := getAt_ways s hk1 hk2
      have ht := take_at s hk2
      have hv := val_snoc (s.data.toList.take k) s[k]
      have hlen : (s.data.toList.take k).length = k := by rw [List.length_take]; simp; omega
      have hvl := val_lt (s.data.toList.take k)
      rw [← ht, hlen] at hv
      rw [hlen] at hvl
      have hb := s[k].toNat_lt
      have hp9 : 128 ^ k ≤ 9223372036854775808 := Nat.le_trans (Nat.pow_le_pow_right (by decide) (show k ≤ 9 by omega)) (by decide)
      have hp1 : 1 ≤ 128 ^ k := Nat.pow_pos (by decide)
      have hnew : Hid ((∀ x ∈ s.data.toList.take k, 128 ≤ x.toNat) → 128 ≤ s[k].toNat → ∀ x ∈ s.data.toList.take (k + 1), 128 ≤ x.toNat) := fun h1 h2 x hx => by
        rw [ht] at hx
        rcases List.mem_append.1 hx with h | h
        · exact h1 x h
        · rw [List.mem_singleton.1 h]; exact h2
      have hPn : Hid (k + 1 ≤ 9 → 128 ^ (k + 1) ≤ 9223372036854775808 ∧ P * 128 = ((128 ^ (k + 1) : Nat) : Int)) := fun h => ⟨Nat.le_trans (Nat.pow_le_pow_right (by decide) h) (by decide), by rw [hPk, Nat.pow_succ]; push_cast; rfl⟩
      have hP0 : 1 ≤ P ∧ P ≤ 9223372036854775808 := by omega
      by_cases hc9 : k = 9 ∧ 1 < s[k].toNat
      · have hR : R = (0, 0, 2) := by rw [hH.out.2]; exact hw.1 hc9
        obtain ⟨rfl, h1⟩ := hc9
        have h1' : (1 : Int) < s[9].toNat := by omega
        clear hH hR0 hw hnew hP hPk hPn hv ht
        subst hR
        go_wp2
        go_ret3
        exact ⟨rfl, Below.refl _ _⟩
      · have hst := ref_step (k := k) (b := s[k].toNat) (by omega) (by omega) hvl hv
        rw [← hPk] at hst
        obtain ⟨hO, hO2⟩ := hst
        have hmul0 : 0 ≤ (s[k].toNat : Int) % 128 * P := Int.mul_nonneg (by omega) (by omega)
        by_cases hb8 : 128 ≤ s[k].toNat
        · have hk9 : k ≠ 9 := by omega
          have hb8' : (128 : Int) ≤ s[k].toNat := by omega
          have hH2 : Hid ((∀ x ∈ s.data.toList.take (k + 1), 128 ≤ x.toNat) ∧ R = getAt s.data.toList (k + 1)) := ⟨hnew.out hH.out.1 hb8, by rw [hH.out.2]; exact hw.2.1 hc9 hb8⟩
          have hPs := hPn.out (by omega)
          clear hc9 hw hR0 hH hnew hv hvl hPn hP hPk hp9 hp1 ht
          have hO1 : 0 ≤ (val (s.data.toList.take k) : Int) + (s[k].toNat : Int) % 128 * P := by omega
          have hO3 : (val (s.data.toList.take k) : Int) + (s[k].toNat : Int) % 128 * P ≤ 18446744073709551615 := by omega
          have hPb : P * 128 ≤ 9223372036854775808 := by omega
          have hOH : Hid ((val (s.data.toList.take k) : Int) + (s[k].toNat : Int) % 128 * P = (val (s.data.toList.take (k + 1)) : Nat)) := hO.symm
          have hPH : Hid (P * 128 = ((128 ^ (k + 1) : Nat) : Int)) := hPs.2
          clear hO hPs
          go_wp2
          go_round
          case rel => exact ⟨k + 1, P * 128, by omega, by omega, by go_num, by rw [← hOH.out], rfl, fun _ => hPH.out, hH2⟩
          case measure => simp [intOf]; omega
        · have hc128 : s[k].toNat < 128 := by omega
          have hpw : 128 ^ (k + 1) ≤ 128 ^ 10 := Nat.pow_le_pow_right (by decide) (by omega)
          have hvl2 := val_lt (s.data.toList.take (k + 1))
          rw [show (s.data.toList.take (k + 1)).length = k + 1 by rw [List.length_take]; simp; omega] at hvl2
          have hput := fun w => rput_c 10 (val (s.data.toList.take (k + 1))) w (by omega) (Nat.lt_of_lt_of_le hvl2 (Nat.pow_le_pow_right (by decide) (by omega))) hO2
          have hgt : ¬ (127 : Int) < s[k].toNat := by omega
          have hb1 : ¬ ((k : Int) = 9 ∧ (1 : Int) < s[k].toNat) := fun h => hc9 ⟨by omega, by omega⟩
          by_cases h0 : s[k].toNat = 0 ∧ 0 < k
          · have hR : R = (0, 0, 2) := by rw [hH.out.2]; exact hw.2.2.1 hc9 (by omega) h0.1 h0.2
            have hne := back_no (s.data.toList.take k) s[k] (by omega) hlen h0
            rw [← ht] at hne
            have hO1 : (val (s.data.toList.take k) : Int) + (s[k].toNat : Int) % 128 * P = (val (s.data.toList.take (k + 1)) : Nat) := hO.symm
            have hO3 : (s[k].toNat : Int) % 128 * P ≤ 18446744073709551615 := by omega
            clear hH hR0 hw hnew hv hvl hPn hP hPk hp9 hp1 ht hc9 h0 hb8 hO hvl2 hpw hc128
            subst hR
            have hk3 : ¬ ((k : Int) + 1 < 0) := by omega
            have hk4 : ¬ ((s.size : Int) < (k : Int) + 1) := by omega
            have hk5 : (k : Int) + 1 ≤ (s.size : Int) := by omega
            have hk7 : IntKind.i64.wrap ((k : Int) + 1) = (k : Int) + 1 := by rw [IntKind.wrap_i64]; omega
            have hk8 : ((k : Int) + 1).toNat = k + 1 := by omega
            have hne2 : decide (putF (10 + 1) (val (s.data.toList.take (k + 1))) ≠ s.data.toList.take (k + 1)) = true := decide_eq_true hne
            have hcmp := fun W => neq_str (putF (10 + 1) (val (s.data.toList.take (k + 1)))) (s.extract 0 (k + 1)) W
            rw [extract_take, hne2] at hcmp
            have hgd := fun W => guard_str (.tmp 44) (.tmp 48) (putF (10 + 1) (val (s.data.toList.take (k + 1)))) (s.extract 0 (k + 1)) W
            clear hne hne2
            generalize val (s.data.toList.take (k + 1)) = V at *
            generalize putF (10 + 1) V = pv at *
            by_cases hk9 : k = 9
            · subst hk9
              have hb1' : ¬ (1 : Int) < s[9].toNat := fun h => hb1 ⟨rfl, h⟩
              have hk4' : ¬ ((s.size : Int) < 10) := hk4
              have hk5' : (10 : Int) ≤ (s.size : Int) := hk5
              have hk5n : 10 ≤ s.size := by omega
              have hk6 : IntKind.i64.wrap 10 = 10 := by decide
              have hcmp' : ∀ W, (binOp .neq 9 (str pv) (.string (s.extract 0 10))).run Try.prog W = .ok (.bool true) W := hcmp
              have hgd' : ∀ W, (eqGuard .neq 9 (.tmp 44) (.tmp 48) (str pv) (.string (s.extract 0 10))).run Try.prog W = .ok () W := hgd
              clear hcmp hgd hk3 hk4 hk5 hk7 hk8 hb1
              go_wp2
              go_region_with (go_at_call 14; refine (hput _).mono ?_; rintro e w' ⟨rfl, hB⟩)
              all_goals go_wp2
              all_goals go_ret3
              all_goals exact ⟨by first | rfl | simp [tupR], (Below.refl w.heap.size w).drew.trans hB⟩
            · have hk9' : ¬ (k : Int) = 9 := by omega
              clear hb1 hk9
              go_wp2
              go_region_with (go_at_call 14; refine (hput _).mono ?_; rintro e w' ⟨rfl, hB⟩)
              all_goals go_wp2
              all_goals go_ret3
              all_goals exact ⟨by first | rfl | simp [tupR], (Below.refl w.heap.size w).drew.trans hB⟩
          · have hR : R = (val (s.data.toList.take (k + 1)), k + 1, 0) := by rw [hH.out.2]; exact hw.2.2.2 hc9 (by omega) (by omega)
            have hne := back_yes (s.data.toList.take k) s[k] (by omega) hlen hH.out.1 hc128 h0
            rw [← ht] at hne
            have hO1 : (val (s.data.toList.take k) : Int) + (s[k].toNat : Int) % 128 * P = (val (s.data.toList.take (k + 1)) : Nat) := hO.symm
            have hO3 : (s[k].toNat : Int) % 128 * P ≤ 18446744073709551615 := by omega
            clear hH hR0 hw hnew hv hvl hPn hP hPk hp9 hp1 ht hc9 h0 hb8 hO hvl2 hpw hc128
            subst hR
            have hk3 : ¬ ((k : Int) + 1 < 0) := by omega
            have hk4 : ¬ ((s.size : Int) < (k : Int) + 1) := by omega
            have hk5 : (k : Int) + 1 ≤ (s.size : Int) := by omega
            have hk7 : IntKind.i64.wrap ((k : Int) + 1) = (k : Int) + 1 := by rw [IntKind.wrap_i64]; omega
            have hk8 : ((k : Int) + 1).toNat = k + 1 := by omega
            have hne2 : decide (putF (10 + 1) (val (s.data.toList.take (k + 1))) ≠ s.data.toList.take (k + 1)) = false := decide_eq_false (fun h => h hne)
            have hcmp := fun W => neq_str (putF (10 + 1) (val (s.data.toList.take (k + 1)))) (s.extract 0 (k + 1)) W
            rw [extract_take, hne2] at hcmp
            have hgd := fun W => guard_str (.tmp 44) (.tmp 48) (putF (10 + 1) (val (s.data.toList.take (k + 1)))) (s.extract 0 (k + 1)) W
            clear hne hne2
            generalize hV0 : val (s.data.toList.take (k + 1)) = V at *
            have hV : Hid (val (s.data.toList.take (k + 1)) = V) := hV0
            clear hV0
            generalize putF (10 + 1) V = pv at *
            by_cases hk9 : k = 9
            · subst hk9
              have hb1' : ¬ (1 : Int) < s[9].toNat := fun h => hb1 ⟨rfl, h⟩
              have hk4' : ¬ ((s.size : Int) < 10) := hk4
              have hk5' : (10 : Int) ≤ (s.size : Int) := hk5
              have hk5n : 10 ≤ s.size := by omega
              have hk6 : IntKind.i64.wrap 10 = 10 := by decide
              have hcmp' : ∀ W, (binOp .neq 9 (str pv) (.string (s.extract 0 10))).run Try.prog W = .ok (.bool false) W := hcmp
              have hgd' : ∀ W, (eqGuard .neq 9 (.tmp 44) (.tmp 48) (str pv) (.string (s.extract 0 10))).run Try.prog W = .ok () W := hgd
              clear hcmp hgd hk3 hk4 hk5 hk7 hk8 hb1
              go_wp2
              go_region_with (go_at_call 14; refine (hput _).mono ?_; rintro e w' ⟨rfl, hB⟩)
              all_goals go_wp2
              all_goals go_ret3
              all_goals exact ⟨by have h10 : val (s.data.toList.take 10) = V := hV.out
                                  simp [tupR, h10], (Below.refl w.heap.size w).drew.trans hB⟩
            · have hk9' : ¬ (k : Int) = 9 := by omega
              clear hb1 hk9
              go_wp2
              go_region_with (go_at_call 14; refine (hput _).mono ?_; rintro e w' ⟨rfl, hB⟩)
              all_goals go_wp2
              all_goals go_ret3
              all_goals exact ⟨by simp [tupR, hV.out], (Below.refl w.heap.size w).drew.trans hB⟩
    · have hR : R = (0, 0, 7) := by rw [hH.out.2]; exact getAt_end _ hk (by simp; omega)
      clear hH hR0
      subst hR
      by_cases h1 : k < s.size
      · have h2 : 10 ≤ k := by omega
        clear hlt
        go_wp2
        all_goals go_ret3
        all_goals exact ⟨rfl, Below.refl _ _⟩
      · clear hlt
        go_wp2
        all_goals go_ret3
        all_goals exact ⟨rfl, Below.refl _ _⟩
end Go.Proofs.Ytmjffmjpefaafad
