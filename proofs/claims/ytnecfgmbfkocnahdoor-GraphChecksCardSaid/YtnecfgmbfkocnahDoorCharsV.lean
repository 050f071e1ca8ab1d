/-
  LETTERS, DIGITS, NAMES: the program's and the reference's, by contract.
-/
import Derived.Test.YtnecfgmbfkocnahDoorVGood3
import Derived.WalkKit
import Derived.WalkSpells
import Derived.ProofKit
import Derived.OpenShut
import Derived.Deep.QuietTactic
import Derived.BigQuiet
namespace Go.Proofs.YtnecfgmbfkocnahDoor
open Go.ChangeShapes Go.WideShapes Go.ChangeAt Go.RowKit

theorem retB {a b : Bool} (h : a = b) : Ending.returned (.bool a) = Ending.returned (.bool b) := by rw [h]
def isLet (b : Int) : Bool := (decide (97 ≤ b) && decide (b ≤ 122)) || (decide (65 ≤ b) && decide (b ≤ 90))
def isDig (b : Int) : Bool := decide (48 ≤ b) && decide (b ≤ 57)
def okB (b : Int) : Bool := isLet b || isDig b || decide (b = 95)

theorem letter_c (b : Int) (w : World) : Calls Tryd.prog 23 #[.int .u8 b] w fun e w' => e = .returned (.bool (isLet b)) ∧ w' = w := by
  by_cases h1 : 97 ≤ b <;> by_cases h2 : b ≤ 122 <;> by_cases h3 : 65 ≤ b <;> by_cases h4 : b ≤ 90 <;> first | (exfalso; omega) | skip
  all_goals
    go_enter Tryd.func23, Tryd.ntmps23
    go_wp2
    go_ret
    exact ⟨retB (by unfold isLet; simp [h1, h2, h3, h4]), rfl⟩
theorem rletter_c (b : Int) (w : World) : Calls Tryd.prog 19 #[.int .u8 b] w fun e w' => e = .returned (.bool (isLet b)) ∧ w' = w := by
  by_cases h1 : 97 ≤ b <;> by_cases h2 : b ≤ 122 <;> by_cases h3 : 65 ≤ b <;> by_cases h4 : b ≤ 90 <;> first | (exfalso; omega) | skip
  all_goals
    go_enter Tryd.func19, Tryd.ntmps19
    go_wp2
    go_ret
    exact ⟨retB (by unfold isLet; simp [h1, h2, h3, h4]), rfl⟩
theorem digit_c (b : Int) (w : World) : Calls Tryd.prog 24 #[.int .u8 b] w fun e w' => e = .returned (.bool (isDig b)) ∧ w' = w := by
  by_cases h1 : 48 ≤ b <;> by_cases h2 : b ≤ 57 <;> first | (exfalso; omega) | skip
  all_goals
    go_enter Tryd.func24, Tryd.ntmps24
    go_wp2
    go_ret
    exact ⟨retB (by unfold isDig; simp [h1, h2]), rfl⟩
theorem rdigit_c (b : Int) (w : World) : Calls Tryd.prog 20 #[.int .u8 b] w fun e w' => e = .returned (.bool (isDig b)) ∧ w' = w := by
  by_cases h1 : 48 ≤ b <;> by_cases h2 : b ≤ 57 <;> first | (exfalso; omega) | skip
  all_goals
    go_enter Tryd.func20, Tryd.ntmps20
    go_wp2
    go_ret
    exact ⟨retB (by unfold isDig; simp [h1, h2]), rfl⟩

/-- The k-th byte of a text. -/
def nameS (s : ByteArray) : Prop := 1 ≤ s.size ∧ s.size ≤ 30 ∧ isLet (byteAt s 0) = true ∧ ∀ k, k < s.size → okB (byteAt s k) = true
instance (s : ByteArray) : Decidable (nameS s) := by unfold nameS; infer_instance

set_option maxHeartbeats 1600000 in
set_option maxRecDepth 100000 in
theorem name_c (s : ByteArray) (w : World) (hs : s.size ≤ 1000) : Calls Tryd.prog 16 #[.string s] w fun e w' => e = .returned (.bool (decide (nameS s))) ∧ w' = w := by
  have hlet := fun b w => letter_c b w
  have hdig := fun b w => digit_c b w
  obtain ⟨R, hR⟩ : ∃ R, Hid (decide (nameS s) = R) := ⟨_, (rfl : decide (nameS s) = _)⟩
  rw [hR.out]
  by_cases h1 : s.size < 1
  · have e : Hid (R = false) := by show _ = _; rw [← hR.out]; exact decide_eq_false fun h => by have := h.1; omega
    rw [e.out]
    clear hR
    go_enter Tryd.func16, Tryd.ntmps16
    go_wp2
    go_ret
    exact ⟨rfl, rfl⟩
  · by_cases h2 : 30 < s.size
    · have e : Hid (R = false) := by show _ = _; rw [← hR.out]; exact decide_eq_false fun h => by have := h.2.1; omega
      rw [e.out]
      clear hR
      go_enter Tryd.func16, Tryd.ntmps16
      go_wp2
      go_ret
      exact ⟨rfl, rfl⟩
    · have hb0 := byteAt_eq (s := s) (k := 0) (by omega)
      have h0 : 0 < s.size := by omega
      have hl0 := hlet (s[0].toNat : Int)
      rw [hb0] at hl0
      cases hc : isLet (byteAt s 0) with
      | false =>
        have e : Hid (R = false) := by show _ = _; rw [← hR.out]; exact decide_eq_false fun h => by have := h.2.2.1; rw [hc] at this; cases this
        rw [e.out]
        rw [hc] at hl0
        clear hR hlet
        go_enter Tryd.func16, Tryd.ntmps16
        go_wp2_with (go_at_call 23; refine (hl0 _).mono ?_; rintro e w' ⟨rfl, rfl⟩)
        go_ret
        exact ⟨rfl, rfl⟩
      | true =>
        rw [hc] at hl0
        go_enter Tryd.func16, Tryd.ntmps16
        go_wp2_with (go_at_call 23; refine (hl0 _).mono ?_; rintro e w' ⟨rfl, rfl⟩)
        clear hl0
        go_loop [20] (fun i => ∃ k : Nat, i = .int .i64 k ∧ k ≤ s.size ∧ Hid (∀ j, j < k → okB (byteAt s j) = true)) (fun i => s.size - (intOf i).toNat)
        case atStart => exact ⟨0, rfl, Nat.zero_le _, fun j hj => by omega⟩
        case round =>
          obtain ⟨k, rfl, hk, hH⟩ := hrel
          by_cases hlt : k < s.size
          · have hbk := byteAt_eq hlt
            have hlk := hlet (s[k].toNat : Int)
            have hdk := hdig (s[k].toNat : Int)
            rw [hbk] at hlk hdk
            have hgood : okB (byteAt s k) = true → Hid (∀ j, j < k + 1 → okB (byteAt s j) = true) := fun h j hj => by
              rcases Nat.lt_or_ge j k with h' | h'
              · exact hH.out j h'
              · obtain rfl : j = k := by omega
                exact h
            have hbad : okB (byteAt s k) = false → Hid (R = false) := fun h => by
              show _ = _
              rw [← hR.out]
              exact decide_eq_false fun hn => by have := hn.2.2.2 k hlt; rw [h] at this; cases this
            clear hR hH hlet hdig hc hb0
            cases hA : isLet (byteAt s k) with
            | true =>
              have hg := hgood (by unfold okB; rw [hA]; rfl)
              rw [hA] at hlk
              clear hgood hbad hdk
              generalize byteAt s k = b at *
              go_wp2_with (go_at_call 23; refine (hlk _).mono ?_; rintro e w' ⟨rfl, rfl⟩)
              go_round
              case rel => exact ⟨k + 1, by go_num, by omega, hg⟩
              case measure => simp [intOf]; omega
            | false =>
              rw [hA] at hlk
              cases hB : isDig (byteAt s k) with
              | true =>
                have hg := hgood (by unfold okB; rw [hA, hB]; rfl)
                rw [hB] at hdk
                clear hgood hbad
                generalize byteAt s k = b at *
                go_wp2_with (first
                  | (go_at_call 23; refine (hlk _).mono ?_; rintro e w' ⟨rfl, rfl⟩)
                  | (go_at_call 24; refine (hdk _).mono ?_; rintro e w' ⟨rfl, rfl⟩))
                go_round
                case rel => exact ⟨k + 1, by go_num, by omega, hg⟩
                case measure => simp [intOf]; omega
              | false =>
                rw [hB] at hdk
                by_cases hU : byteAt s k = 95
                · have hg := hgood (by unfold okB; rw [hA, hB, hU]; rfl)
                  have hd : (byteAt s k != 95) = false := by rw [hU]; rfl
                  have hUH : Hid (byteAt s k = 95) := hU
                  clear hgood hbad hU
                  generalize byteAt s k = b at *
                  go_wp2_with (first
                    | (go_at_call 23; refine (hlk _).mono ?_; rintro e w' ⟨rfl, rfl⟩)
                    | (go_at_call 24; refine (hdk _).mono ?_; rintro e w' ⟨rfl, rfl⟩))
                  go_round
                  case rel => exact ⟨k + 1, by go_num, by omega, hg⟩
                  case measure => simp [intOf]; omega
                · have hg := hbad (by unfold okB; rw [hA, hB]; simp [hU])
                  have hd : (byteAt s k != 95) = true := by simp [hU]
                  clear hgood hbad
                  generalize byteAt s k = b at *
                  go_wp2_with (first
                    | (go_at_call 23; refine (hlk _).mono ?_; rintro e w' ⟨rfl, rfl⟩)
                    | (go_at_call 24; refine (hdk _).mono ?_; rintro e w' ⟨rfl, rfl⟩))
                  go_ret
                  exact ⟨retB hg.out.symm, rfl⟩
          · have hT : Hid (R = true) := by
              show _ = _
              rw [← hR.out]
              exact decide_eq_true ⟨by omega, by omega, hc, fun j hj => hH.out j (by omega)⟩
            clear hR hH hlet hdig hc hb0
            go_wp2
            go_ret
            exact ⟨retB hT.out.symm, rfl⟩

set_option maxHeartbeats 1600000 in
set_option maxRecDepth 100000 in
theorem rname_c (s : ByteArray) (w : World) (hs : s.size ≤ 1000) : Calls Tryd.prog 14 #[.string s] w fun e w' => e = .returned (.bool (decide (nameS s))) ∧ w' = w := by
  have hlet := fun b w => rletter_c b w
  have hdig := fun b w => rdigit_c b w
  obtain ⟨R, hR⟩ : ∃ R, Hid (decide (nameS s) = R) := ⟨_, (rfl : decide (nameS s) = _)⟩
  rw [hR.out]
  by_cases h1 : s.size < 1
  · have e : Hid (R = false) := by show _ = _; rw [← hR.out]; exact decide_eq_false fun h => by have := h.1; omega
    rw [e.out]
    clear hR
    obtain rfl : s = ⟨#[]⟩ := by apply ByteArray.ext; apply Array.eq_empty_of_size_eq_zero; have : s.data.size = s.size := rfl; omega
    go_enter Tryd.func14, Tryd.ntmps14
    go_wp2
    go_ret
    exact ⟨rfl, rfl⟩
  · have hsn : s.toList.isEmpty = false := by
      rw [Go.ByteArray.toList_eq, List.isEmpty_eq_false_iff]
      intro e
      have := congrArg List.length e
      rw [Array.length_toList] at this
      exact h1 (by show s.data.size < 1; rw [this]; decide)
    by_cases h2 : 30 < s.size
    · have e : Hid (R = false) := by show _ = _; rw [← hR.out]; exact decide_eq_false fun h => by have := h.2.1; omega
      rw [e.out]
      clear hR
      go_enter Tryd.func14, Tryd.ntmps14
      go_wp2
      go_ret
      exact ⟨rfl, rfl⟩
    · have hb0 := byteAt_eq (s := s) (k := 0) (by omega)
      have h0 : 0 < s.size := by omega
      have hl0 := hlet (s[0].toNat : Int)
      rw [hb0] at hl0
      cases hc : isLet (byteAt s 0) with
      | false =>
        have e : Hid (R = false) := by show _ = _; rw [← hR.out]; exact decide_eq_false fun h => by have := h.2.2.1; rw [hc] at this; cases this
        rw [e.out]
        rw [hc] at hl0
        clear hR hlet
        go_enter Tryd.func14, Tryd.ntmps14
        go_wp2_with (go_at_call 19; refine (hl0 _).mono ?_; rintro e w' ⟨rfl, rfl⟩)
        go_ret
        exact ⟨rfl, rfl⟩
      | true =>
        rw [hc] at hl0
        go_enter Tryd.func14, Tryd.ntmps14
        go_wp2_with (go_at_call 19; refine (hl0 _).mono ?_; rintro e w' ⟨rfl, rfl⟩)
        clear hl0
        go_loop [3] (fun i => ∃ k : Nat, i = .int .i64 k ∧ k ≤ s.size ∧ Hid (∀ j, j < k → okB (byteAt s j) = true)) (fun i => s.size - (intOf i).toNat)
        case atStart => exact ⟨0, rfl, Nat.zero_le _, fun j hj => by omega⟩
        case round =>
          obtain ⟨k, rfl, hk, hH⟩ := hrel
          by_cases hlt : k < s.size
          · have hbk := byteAt_eq hlt
            have hlk := hlet (s[k].toNat : Int)
            have hdk := hdig (s[k].toNat : Int)
            rw [hbk] at hlk hdk
            have hgood : okB (byteAt s k) = true → Hid (∀ j, j < k + 1 → okB (byteAt s j) = true) := fun h j hj => by
              rcases Nat.lt_or_ge j k with h' | h'
              · exact hH.out j h'
              · obtain rfl : j = k := by omega
                exact h
            have hbad : okB (byteAt s k) = false → Hid (R = false) := fun h => by
              show _ = _
              rw [← hR.out]
              exact decide_eq_false fun hn => by have := hn.2.2.2 k hlt; rw [h] at this; cases this
            clear hR hH hlet hdig hc hb0
            cases hA : isLet (byteAt s k) with
            | true =>
              have hg := hgood (by unfold okB; rw [hA]; rfl)
              rw [hA] at hlk
              clear hgood hbad hdk
              generalize byteAt s k = b at *
              go_wp2_with (go_at_call 19; refine (hlk _).mono ?_; rintro e w' ⟨rfl, rfl⟩)
              go_round
              case rel => exact ⟨k + 1, by go_num, by omega, hg⟩
              case measure => simp [intOf]; omega
            | false =>
              rw [hA] at hlk
              cases hB : isDig (byteAt s k) with
              | true =>
                have hg := hgood (by unfold okB; rw [hA, hB]; rfl)
                rw [hB] at hdk
                clear hgood hbad
                generalize byteAt s k = b at *
                go_wp2_with (first
                  | (go_at_call 19; refine (hlk _).mono ?_; rintro e w' ⟨rfl, rfl⟩)
                  | (go_at_call 20; refine (hdk _).mono ?_; rintro e w' ⟨rfl, rfl⟩))
                go_round
                case rel => exact ⟨k + 1, by go_num, by omega, hg⟩
                case measure => simp [intOf]; omega
              | false =>
                rw [hB] at hdk
                by_cases hU : byteAt s k = 95
                · have hg := hgood (by unfold okB; rw [hA, hB, hU]; rfl)
                  have hd : (byteAt s k != 95) = false := by rw [hU]; rfl
                  have hUH : Hid (byteAt s k = 95) := hU
                  clear hgood hbad hU
                  generalize byteAt s k = b at *
                  go_wp2_with (first
                    | (go_at_call 19; refine (hlk _).mono ?_; rintro e w' ⟨rfl, rfl⟩)
                    | (go_at_call 20; refine (hdk _).mono ?_; rintro e w' ⟨rfl, rfl⟩))
                  go_round
                  case rel => exact ⟨k + 1, by go_num, by omega, hg⟩
                  case measure => simp [intOf]; omega
                · have hg := hbad (by unfold okB; rw [hA, hB]; simp [hU])
                  have hd : (byteAt s k != 95) = true := by simp [hU]
                  clear hgood hbad
                  generalize byteAt s k = b at *
                  go_wp2_with (first
                    | (go_at_call 19; refine (hlk _).mono ?_; rintro e w' ⟨rfl, rfl⟩)
                    | (go_at_call 20; refine (hdk _).mono ?_; rintro e w' ⟨rfl, rfl⟩))
                  go_ret
                  exact ⟨retB hg.out.symm, rfl⟩
          · have hT : Hid (R = true) := by
              show _ = _
              rw [← hR.out]
              exact decide_eq_true ⟨by omega, by omega, hc, fun j hj => hH.out j (by omega)⟩
            clear hR hH hlet hdig hc hb0
            go_wp2
            go_ret
            exact ⟨retB hT.out.symm, rfl⟩
end Go.Proofs.YtnecfgmbfkocnahDoor
