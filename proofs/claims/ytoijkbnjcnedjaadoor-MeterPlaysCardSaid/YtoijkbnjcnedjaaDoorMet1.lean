/-
  A CUT TEXT, by contract.
-/
import Derived.Test.YtoijkbnjcnedjaaDoorSl
import Derived.Test.YtoijkbnjcnedjaaDoorRows
import Derived.WalkKit
import Derived.WalkSpells
import Derived.ProofKit
import Derived.OpenShut
import Derived.Deep.QuietTactic
import Derived.BigQuiet
import Derived.Test.YtoijkbnjcnedjaaDoorRec
import Derived.Test.YtoijkbnjcnedjaaDoorSameT
import Derived.Maps.Own
import Derived.Maps.OwnOps
import Derived.Maps.OwnSet
import Derived.StringKeys
import Derived.WalkSmall
namespace Go.Proofs.YtoijkbnjcnedjaaDoor
open Go.ChangeShapes Go.WideShapes Go.ChangeAt Go.RowKit

def cutB (s : ByteArray) (m : Nat) : ByteArray := if m < s.size then s.extract 0 m else s
theorem cutB_size (s : ByteArray) (m : Nat) : (cutB s m).size ≤ m := by
  unfold cutB; split
  · simp; omega
  · omega

set_option maxHeartbeats 800000 in
theorem cut_c (s : ByteArray) (m : Nat) (w : World) (hm : m ≤ 1000) :
    Calls Tryd.prog 7 #[.string s, .int .i64 m] w fun e w' => e = .returned (.string (cutB s m)) ∧ w' = w := by
  unfold cutB
  by_cases h : m < s.size
  · rw [if_pos h]
    go_enter Tryd.func7, Tryd.ntmps7
    go_wp2
    go_ret
    exact ⟨rfl, rfl⟩
  · rw [if_neg h]
    go_enter Tryd.func7, Tryd.ntmps7
    go_wp2
    go_ret
    exact ⟨rfl, rfl⟩
end Go.Proofs.YtoijkbnjcnedjaaDoor
/-
  LETTERS, DIGITS, NAMES: the program's and the reference's, by contract.
-/
namespace Go.Proofs.YtoijkbnjcnedjaaDoor
open Go.ChangeShapes Go.WideShapes Go.ChangeAt Go.RowKit

theorem retB {a b : Bool} (h : a = b) : Ending.returned (.bool a) = Ending.returned (.bool b) := by rw [h]
def isLet (b : Int) : Bool := (decide (97 ≤ b) && decide (b ≤ 122)) || (decide (65 ≤ b) && decide (b ≤ 90))
def isDig (b : Int) : Bool := decide (48 ≤ b) && decide (b ≤ 57)
def okB (b : Int) : Bool := isLet b || isDig b || decide (b = 95)

theorem letter_c (b : Int) (w : World) : Calls Tryd.prog 28 #[.int .u8 b] w fun e w' => e = .returned (.bool (isLet b)) ∧ w' = w := by
  by_cases h1 : 97 ≤ b <;> by_cases h2 : b ≤ 122 <;> by_cases h3 : 65 ≤ b <;> by_cases h4 : b ≤ 90 <;> first | (exfalso; omega) | skip
  all_goals
    go_enter Tryd.func28, Tryd.ntmps28
    go_wp2
    go_ret
    exact ⟨retB (by unfold isLet; simp [h1, h2, h3, h4]), rfl⟩
theorem rletter_c (b : Int) (w : World) : Calls Tryd.prog 30 #[.int .u8 b] w fun e w' => e = .returned (.bool (isLet b)) ∧ w' = w := by
  by_cases h1 : 97 ≤ b <;> by_cases h2 : b ≤ 122 <;> by_cases h3 : 65 ≤ b <;> by_cases h4 : b ≤ 90 <;> first | (exfalso; omega) | skip
  all_goals
    go_enter Tryd.func30, Tryd.ntmps30
    go_wp2
    go_ret
    exact ⟨retB (by unfold isLet; simp [h1, h2, h3, h4]), rfl⟩
theorem digit_c (b : Int) (w : World) : Calls Tryd.prog 29 #[.int .u8 b] w fun e w' => e = .returned (.bool (isDig b)) ∧ w' = w := by
  by_cases h1 : 48 ≤ b <;> by_cases h2 : b ≤ 57 <;> first | (exfalso; omega) | skip
  all_goals
    go_enter Tryd.func29, Tryd.ntmps29
    go_wp2
    go_ret
    exact ⟨retB (by unfold isDig; simp [h1, h2]), rfl⟩
theorem rdigit_c (b : Int) (w : World) : Calls Tryd.prog 31 #[.int .u8 b] w fun e w' => e = .returned (.bool (isDig b)) ∧ w' = w := by
  by_cases h1 : 48 ≤ b <;> by_cases h2 : b ≤ 57 <;> first | (exfalso; omega) | skip
  all_goals
    go_enter Tryd.func31, Tryd.ntmps31
    go_wp2
    go_ret
    exact ⟨retB (by unfold isDig; simp [h1, h2]), rfl⟩

/-- The k-th byte of a text. -/
def byteAt (s : ByteArray) (k : Nat) : Int := ((s.data.toList.getD k 0).toNat : Int)
theorem byteAt_eq {s : ByteArray} {k : Nat} (h : k < s.size) : ((s[k]).toNat : Int) = byteAt s k := by
  unfold byteAt
  have hl : k < s.data.toList.length := by simpa using h
  rw [List.getD_eq_getElem?_getD, List.getElem?_eq_getElem hl]; rfl
def nameS (s : ByteArray) : Prop := 1 ≤ s.size ∧ s.size ≤ 30 ∧ isLet (byteAt s 0) = true ∧ ∀ k, k < s.size → okB (byteAt s k) = true
instance (s : ByteArray) : Decidable (nameS s) := by unfold nameS; infer_instance

set_option maxHeartbeats 1600000 in
set_option maxRecDepth 100000 in
theorem name_c (s : ByteArray) (w : World) (hs : s.size ≤ 1000) : Calls Tryd.prog 23 #[.string s] w fun e w' => e = .returned (.bool (decide (nameS s))) ∧ w' = w := by
  have hlet := fun b w => letter_c b w
  have hdig := fun b w => digit_c b w
  obtain ⟨R, hR⟩ : ∃ R, Hid (decide (nameS s) = R) := ⟨_, (rfl : decide (nameS s) = _)⟩
  rw [hR.out]
  by_cases h1 : s.size < 1
  · have e : Hid (R = false) := by show _ = _; rw [← hR.out]; exact decide_eq_false fun h => by have := h.1; omega
    rw [e.out]
    clear hR
    go_enter Tryd.func23, Tryd.ntmps23
    go_wp2
    go_ret
    exact ⟨rfl, rfl⟩
  · by_cases h2 : 30 < s.size
    · have e : Hid (R = false) := by show _ = _; rw [← hR.out]; exact decide_eq_false fun h => by have := h.2.1; omega
      rw [e.out]
      clear hR
      go_enter Tryd.func23, Tryd.ntmps23
      go_wp2
      go_ret
      exact ⟨rfl, rfl⟩
    · have hb0 := byteAt_eq (s := s) (k := 0) (by omega)
      have h0 : 0 < s.size := by omega
      have hl0 := hlet (s[0].toNat : Int)
      rw [hb0] at hl0
      cases hc : isLet (byteAt s 0) with
      | false =>
        have e : Hid (R = false) := by show _ = _; rw [← hR.out]; exact decide_eq_false fun h => by have := h.2.2.1; rw [hc] at this; cases this
        rw [e.out]
        rw [hc] at hl0
        clear hR hlet
        go_enter Tryd.func23, Tryd.ntmps23
        go_wp2_with (go_at_call 28; refine (hl0 _).mono ?_; rintro e w' ⟨rfl, rfl⟩)
        go_ret
        exact ⟨rfl, rfl⟩
      | true =>
        rw [hc] at hl0
        go_enter Tryd.func23, Tryd.ntmps23
        go_wp2_with (go_at_call 28; refine (hl0 _).mono ?_; rintro e w' ⟨rfl, rfl⟩)
        clear hl0
        go_loop [20] (fun i => ∃ k : Nat, i = .int .i64 k ∧ k ≤ s.size ∧ Hid (∀ j, j < k → okB (byteAt s j) = true)) (fun i => s.size - (intOf i).toNat)
        case atStart => exact ⟨0, rfl, Nat.zero_le _, fun j hj => by omega⟩
        case round =>
          obtain ⟨k, rfl, hk, hH⟩ := hrel
          by_cases hlt : k < s.size
          · have hbk := byteAt_eq hlt
            have hlk := hlet (s[k].toNat : Int)
            have hdk := hdig (s[k].toNat : Int)
            rw [hbk] at hlk hdk
            have hgood : okB (byteAt s k) = true → Hid (∀ j, j < k + 1 → okB (byteAt s j) = true) := fun h j hj => by
              rcases Nat.lt_or_ge j k with h' | h'
              · exact hH.out j h'
              · obtain rfl : j = k := by omega
                exact h
            have hbad : okB (byteAt s k) = false → Hid (R = false) := fun h => by
              show _ = _
              rw [← hR.out]
              exact decide_eq_false fun hn => by have := hn.2.2.2 k hlt; rw [h] at this; cases this
            clear hR hH hlet hdig hc hb0
            cases hA : isLet (byteAt s k) with
            | true =>
              have hg := hgood (by unfold okB; rw [hA]; rfl)
              rw [hA] at hlk
              clear hgood hbad hdk
              generalize byteAt s k = b at *
              go_wp2_with (go_at_call 28; refine (hlk _).mono ?_; rintro e w' ⟨rfl, rfl⟩)
              go_round
              case rel => exact ⟨k + 1, by go_num, by omega, hg⟩
              case measure => simp [intOf]; omega
            | false =>
              rw [hA] at hlk
              cases hB : isDig (byteAt s k) with
              | true =>
                have hg := hgood (by unfold okB; rw [hA, hB]; rfl)
                rw [hB] at hdk
                clear hgood hbad
                generalize byteAt s k = b at *
                go_wp2_with (first
                  | (go_at_call 28; refine (hlk _).mono ?_; rintro e w' ⟨rfl, rfl⟩)
                  | (go_at_call 29; refine (hdk _).mono ?_; rintro e w' ⟨rfl, rfl⟩))
                go_round
                case rel => exact ⟨k + 1, by go_num, by omega, hg⟩
                case measure => simp [intOf]; omega
              | false =>
                rw [hB] at hdk
                by_cases hU : byteAt s k = 95
                · have hg := hgood (by unfold okB; rw [hA, hB, hU]; rfl)
                  have hd : (byteAt s k != 95) = false := by rw [hU]; rfl
                  have hUH : Hid (byteAt s k = 95) := hU
                  clear hgood hbad hU
                  generalize byteAt s k = b at *
                  go_wp2_with (first
                    | (go_at_call 28; refine (hlk _).mono ?_; rintro e w' ⟨rfl, rfl⟩)
                    | (go_at_call 29; refine (hdk _).mono ?_; rintro e w' ⟨rfl, rfl⟩))
                  go_round
                  case rel => exact ⟨k + 1, by go_num, by omega, hg⟩
                  case measure => simp [intOf]; omega
                · have hg := hbad (by unfold okB; rw [hA, hB]; simp [hU])
                  have hd : (byteAt s k != 95) = true := by simp [hU]
                  clear hgood hbad
                  generalize byteAt s k = b at *
                  go_wp2_with (first
                    | (go_at_call 28; refine (hlk _).mono ?_; rintro e w' ⟨rfl, rfl⟩)
                    | (go_at_call 29; refine (hdk _).mono ?_; rintro e w' ⟨rfl, rfl⟩))
                  go_ret
                  exact ⟨retB hg.out.symm, rfl⟩
          · have hT : Hid (R = true) := by
              show _ = _
              rw [← hR.out]
              exact decide_eq_true ⟨by omega, by omega, hc, fun j hj => hH.out j (by omega)⟩
            clear hR hH hlet hdig hc hb0
            go_wp2
            go_ret
            exact ⟨retB hT.out.symm, rfl⟩

set_option maxHeartbeats 1600000 in
set_option maxRecDepth 100000 in
theorem rname_c (s : ByteArray) (w : World) (hs : s.size ≤ 1000) : Calls Tryd.prog 24 #[.string s] w fun e w' => e = .returned (.bool (decide (nameS s))) ∧ w' = w := by
  have hlet := fun b w => rletter_c b w
  have hdig := fun b w => rdigit_c b w
  obtain ⟨R, hR⟩ : ∃ R, Hid (decide (nameS s) = R) := ⟨_, (rfl : decide (nameS s) = _)⟩
  rw [hR.out]
  by_cases h1 : s.size < 1
  · have e : Hid (R = false) := by show _ = _; rw [← hR.out]; exact decide_eq_false fun h => by have := h.1; omega
    rw [e.out]
    clear hR
    obtain rfl : s = ⟨#[]⟩ := by apply ByteArray.ext; apply Array.eq_empty_of_size_eq_zero; have : s.data.size = s.size := rfl; omega
    go_enter Tryd.func24, Tryd.ntmps24
    go_wp2
    go_ret
    exact ⟨rfl, rfl⟩
  · have hsn : s.toList.isEmpty = false := by
      rw [Go.ByteArray.toList_eq, List.isEmpty_eq_false_iff]
      intro e
      have := congrArg List.length e
      rw [Array.length_toList] at this
      exact h1 (by show s.data.size < 1; rw [this]; decide)
    by_cases h2 : 30 < s.size
    · have e : Hid (R = false) := by show _ = _; rw [← hR.out]; exact decide_eq_false fun h => by have := h.2.1; omega
      rw [e.out]
      clear hR
      go_enter Tryd.func24, Tryd.ntmps24
      go_wp2
      go_ret
      exact ⟨rfl, rfl⟩
    · have hb0 := byteAt_eq (s := s) (k := 0) (by omega)
      have h0 : 0 < s.size := by omega
      have hl0 := hlet (s[0].toNat : Int)
      rw [hb0] at hl0
      cases hc : isLet (byteAt s 0) with
      | false =>
        have e : Hid (R = false) := by show _ = _; rw [← hR.out]; exact decide_eq_false fun h => by have := h.2.2.1; rw [hc] at this; cases this
        rw [e.out]
        rw [hc] at hl0
        clear hR hlet
        go_enter Tryd.func24, Tryd.ntmps24
        go_wp2_with (go_at_call 30; refine (hl0 _).mono ?_; rintro e w' ⟨rfl, rfl⟩)
        go_ret
        exact ⟨rfl, rfl⟩
      | true =>
        rw [hc] at hl0
        go_enter Tryd.func24, Tryd.ntmps24
        go_wp2_with (go_at_call 30; refine (hl0 _).mono ?_; rintro e w' ⟨rfl, rfl⟩)
        clear hl0
        go_loop [3] (fun i => ∃ k : Nat, i = .int .i64 k ∧ k ≤ s.size ∧ Hid (∀ j, j < k → okB (byteAt s j) = true)) (fun i => s.size - (intOf i).toNat)
        case atStart => exact ⟨0, rfl, Nat.zero_le _, fun j hj => by omega⟩
        case round =>
          obtain ⟨k, rfl, hk, hH⟩ := hrel
          by_cases hlt : k < s.size
          · have hbk := byteAt_eq hlt
            have hlk := hlet (s[k].toNat : Int)
            have hdk := hdig (s[k].toNat : Int)
            rw [hbk] at hlk hdk
            have hgood : okB (byteAt s k) = true → Hid (∀ j, j < k + 1 → okB (byteAt s j) = true) := fun h j hj => by
              rcases Nat.lt_or_ge j k with h' | h'
              · exact hH.out j h'
              · obtain rfl : j = k := by omega
                exact h
            have hbad : okB (byteAt s k) = false → Hid (R = false) := fun h => by
              show _ = _
              rw [← hR.out]
              exact decide_eq_false fun hn => by have := hn.2.2.2 k hlt; rw [h] at this; cases this
            clear hR hH hlet hdig hc hb0
            cases hA : isLet (byteAt s k) with
            | true =>
              have hg := hgood (by unfold okB; rw [hA]; rfl)
              rw [hA] at hlk
              clear hgood hbad hdk
              generalize byteAt s k = b at *
              go_wp2_with (go_at_call 30; refine (hlk _).mono ?_; rintro e w' ⟨rfl, rfl⟩)
              go_round
              case rel => exact ⟨k + 1, by go_num, by omega, hg⟩
              case measure => simp [intOf]; omega
            | false =>
              rw [hA] at hlk
              cases hB : isDig (byteAt s k) with
              | true =>
                have hg := hgood (by unfold okB; rw [hA, hB]; rfl)
                rw [hB] at hdk
                clear hgood hbad
                generalize byteAt s k = b at *
                go_wp2_with (first
                  | (go_at_call 30; refine (hlk _).mono ?_; rintro e w' ⟨rfl, rfl⟩)
                  | (go_at_call 31; refine (hdk _).mono ?_; rintro e w' ⟨rfl, rfl⟩))
                go_round
                case rel => exact ⟨k + 1, by go_num, by omega, hg⟩
                case measure => simp [intOf]; omega
              | false =>
                rw [hB] at hdk
                by_cases hU : byteAt s k = 95
                · have hg := hgood (by unfold okB; rw [hA, hB, hU]; rfl)
                  have hd : (byteAt s k != 95) = false := by rw [hU]; rfl
                  have hUH : Hid (byteAt s k = 95) := hU
                  clear hgood hbad hU
                  generalize byteAt s k = b at *
                  go_wp2_with (first
                    | (go_at_call 30; refine (hlk _).mono ?_; rintro e w' ⟨rfl, rfl⟩)
                    | (go_at_call 31; refine (hdk _).mono ?_; rintro e w' ⟨rfl, rfl⟩))
                  go_round
                  case rel => exact ⟨k + 1, by go_num, by omega, hg⟩
                  case measure => simp [intOf]; omega
                · have hg := hbad (by unfold okB; rw [hA, hB]; simp [hU])
                  have hd : (byteAt s k != 95) = true := by simp [hU]
                  clear hgood hbad
                  generalize byteAt s k = b at *
                  go_wp2_with (first
                    | (go_at_call 30; refine (hlk _).mono ?_; rintro e w' ⟨rfl, rfl⟩)
                    | (go_at_call 31; refine (hdk _).mono ?_; rintro e w' ⟨rfl, rfl⟩))
                  go_ret
                  exact ⟨retB hg.out.symm, rfl⟩
          · have hT : Hid (R = true) := by
              show _ = _
              rw [← hR.out]
              exact decide_eq_true ⟨by omega, by omega, hc, fun j hj => hH.out j (by omega)⟩
            clear hR hH hlet hdig hc hb0
            go_wp2
            go_ret
            exact ⟨retB hT.out.symm, rfl⟩
end Go.Proofs.YtoijkbnjcnedjaaDoor
/-
  METERS: what was counted, as a list; the program's New, Left, All, Of and Add, by contract.
-/
namespace Go.Proofs.YtoijkbnjcnedjaaDoor
open Go.ChangeShapes Go.WideShapes Go.ChangeAt Go.RowKit Go.Maps

structure Ct where
  s : ByteArray
  k : Int
def sumC : List Ct → Int
  | [] => 0
  | c :: r => c.k + sumC r
open Classical in
noncomputable def addC (s : ByteArray) (n : Int) : List Ct → List Ct
  | [] => [⟨s, n⟩]
  | c :: r => if c.s = s then ⟨s, c.k + n⟩ :: r else if blT c.s s = true then c :: addC s n r else ⟨s, n⟩ :: c :: r
open Classical in
noncomputable def ofC (s : ByteArray) : List Ct → Int
  | [] => 0
  | c :: r => if c.s = s then c.k else ofC s r
def namesC (L : List Ct) : List ByteArray := L.map Ct.s
theorem sum_add (s : ByteArray) (n : Int) : ∀ L, sumC (addC s n L) = sumC L + n
  | [] => by simp [addC, sumC]
  | c :: r => by
    unfold addC
    split
    · simp only [sumC]; omega
    · split
      · simp only [sumC, sum_add s n r]; omega
      · simp only [sumC]; omega
theorem names_add (s : ByteArray) (n : Int) : ∀ L, ∀ x, x ∈ namesC (addC s n L) ↔ x = s ∨ x ∈ namesC L
  | [], x => by simp [addC, namesC]
  | c :: r, x => by
    have ih := names_add s n r x
    unfold addC
    unfold namesC at *
    split
    · rename_i h
      simp only [List.map_cons, List.mem_cons]
      rw [h]
      exact ⟨fun h => by rcases h with h | h; exact .inl h; exact .inr (.inr h), fun h => by rcases h with h | h | h; exact .inl h; exact .inl h; exact .inr h⟩
    · split
      · simp only [List.map_cons, List.mem_cons]
        rw [ih]
        exact ⟨fun h => by rcases h with h | h | h; exact .inr (.inl h); exact .inl h; exact .inr (.inr h), fun h => by rcases h with h | h | h; exact .inr (.inl h); exact .inl h; exact .inr (.inr h)⟩
      · simp only [List.map_cons, List.mem_cons]
theorem len_add (s : ByteArray) (n : Int) : ∀ L, (addC s n L).length ≤ L.length + 1
  | [] => by simp [addC]
  | c :: r => by
    have ih := len_add s n r
    unfold addC
    split
    · simp
    · split
      · simp only [List.length_cons]; omega
      · simp
theorem of_none {s : ByteArray} : ∀ {L : List Ct}, s ∉ namesC L → ofC s L = 0
  | [], _ => rfl
  | c :: r, h => by
    simp only [namesC, List.map_cons, List.mem_cons, not_or] at h
    unfold ofC
    rw [if_neg (Ne.symm h.1)]
    exact of_none h.2
theorem blT_ne {a b : ByteArray} (h : blT a b = true) : a ≠ b := fun e => by
  subst e
  have := lt_b_irrefl a.toList
  unfold blT at h
  rw [h] at this
  cases this
theorem blT_trans {a b c : ByteArray} (h1 : blT a b = true) (h2 : blT b c = true) : blT a c = true := lt_b_trans _ _ _ h1 h2
theorem blT_total {a b : ByteArray} (h1 : a ≠ b) (h2 : ¬ blT a b = true) : blT b a = true := by
  cases h : blT b a
  · exact absurd (txt_inj (lt_b_tri _ _ (by simpa [blT] using h2) h)) h1
  · rfl
theorem of_add (s : ByteArray) (n : Int) (x : ByteArray) : ∀ L, StrictT (namesC L) → ofC x (addC s n L) = ofC x L + (if x = s then n else 0)
  | [], _ => by
    unfold addC ofC
    by_cases h : s = x
    · rw [if_pos h, if_pos h.symm]; simp
    · rw [if_neg h, if_neg (Ne.symm h)]; simp [ofC]
  | c :: r, hs => by
    have hs2 : StrictT (namesC r) := (List.pairwise_cons.1 hs).2
    have hlt : ∀ y ∈ namesC r, blT c.s y = true := (List.pairwise_cons.1 hs).1
    have ih := of_add s n x r hs2
    unfold addC
    split
    · rename_i h
      subst h
      unfold ofC
      by_cases hx : c.s = x
      · subst hx; simp
      · simp [hx, Ne.symm hx]
    · rename_i h
      split
      · rename_i hb
        unfold ofC
        by_cases hx : c.s = x
        · subst hx; simp [h]
        · simp only [if_neg hx]; exact ih
      · rename_i hb
        have h3 := blT_total h hb
        have hno : s ∉ namesC (c :: r) := fun hm => by
          rcases List.mem_cons.1 hm with h4 | h4
          · exact h h4.symm
          · have := blT_trans h3 (hlt _ h4)
            exact blT_ne this rfl
        rw [show ofC x (⟨s, n⟩ :: c :: r) = if s = x then n else ofC x (c :: r) from rfl]
        by_cases hx : s = x
        · subst hx
          rw [of_none hno]; simp
        · rw [if_neg hx, if_neg (Ne.symm hx)]; omega
theorem strict_add (s : ByteArray) (n : Int) : ∀ L, StrictT (namesC L) → StrictT (namesC (addC s n L))
  | [], _ => by simp [addC, namesC, StrictT]
  | c :: r, hs => by
    have hs2 : StrictT (namesC r) := (List.pairwise_cons.1 hs).2
    have hlt : ∀ y ∈ namesC r, blT c.s y = true := (List.pairwise_cons.1 hs).1
    have ih := strict_add s n r hs2
    unfold addC
    split
    · rename_i h
      rw [show namesC (⟨s, c.k + n⟩ :: r) = namesC (c :: r) by simp [namesC, h]]
      exact hs
    · rename_i h
      split
      · rename_i hb
        exact List.pairwise_cons.2 ⟨fun y hy => by
          rcases (names_add s n r y).1 hy with rfl | h4
          · exact hb
          · exact hlt _ h4, ih⟩
      · rename_i hb
        have h3 := blT_total h hb
        exact List.pairwise_cons.2 ⟨fun y hy => by
          rcases List.mem_cons.1 hy with rfl | h4
          · exact h3
          · exact blT_trans h3 (hlt _ h4), hs⟩
/-- What a meter may hold. -/
structure Fine (m : Int) (L : List Ct) : Prop where
  strict : StrictT (namesC L)
  pos : ∀ c ∈ L, 0 < c.k ∧ c.s.size ≤ 40
  small : sumC L ≤ m
theorem sum_pos : ∀ {L : List Ct}, (∀ c ∈ L, 0 < c.k ∧ c.s.size ≤ 40) → 0 ≤ sumC L ∧ ∀ c ∈ L, c.k ≤ sumC L
  | [], _ => ⟨by simp [sumC], fun _ h => by cases h⟩
  | c :: r, h => by
    have ih := sum_pos (L := r) (fun c hc => h c (List.mem_cons_of_mem _ hc))
    have h0 := (h c List.mem_cons_self).1
    refine ⟨by simp only [sumC]; omega, fun d hd => ?_⟩
    rcases List.mem_cons.1 hd with rfl | hd
    · simp only [sumC]; omega
    · have := ih.2 d hd; simp only [sumC]; omega
theorem pos_add (s : ByteArray) (n : Int) (hn : 0 < n) (hs : s.size ≤ 40) : ∀ L : List Ct, (∀ c ∈ L, 0 < c.k ∧ c.s.size ≤ 40) → ∀ c ∈ addC s n L, 0 < c.k ∧ c.s.size ≤ 40
  | [], _, c, hc => by simp [addC] at hc; subst hc; exact ⟨hn, hs⟩
  | d :: r, h, c, hc => by
    have hd := h d List.mem_cons_self
    have hr := fun c hc => h c (List.mem_cons_of_mem _ hc)
    unfold addC at hc
    split at hc
    · rename_i he
      rcases List.mem_cons.1 hc with rfl | hc
      · exact ⟨by show 0 < d.k + n; omega, hs⟩
      · exact hr c hc
    · split at hc
      · rcases List.mem_cons.1 hc with rfl | hc
        · exact hd
        · exact pos_add s n hn hs r hr c hc
      · rcases List.mem_cons.1 hc with rfl | hc
        · exact ⟨hn, hs⟩
        · exact h c hc
theorem Fine.add {m : Int} {L : List Ct} (h : Fine m L) {s : ByteArray} {n : Int} (hn : 0 < n) (hs : s.size ≤ 40) (hm : n ≤ m - sumC L) : Fine m (addC s n L) :=
  ⟨strict_add s n L h.strict, pos_add s n hn hs L h.pos, by rw [sum_add]; omega⟩
theorem Fine.nonneg {m : Int} {L : List Ct} (h : Fine m L) : 0 ≤ sumC L := (sum_pos h.pos).1
theorem Fine.of {m : Int} {L : List Ct} (h : Fine m L) (x : ByteArray) : 0 ≤ ofC x L ∧ ofC x L ≤ sumC L := by
  have h1 := sum_pos h.pos
  have h2 := h.pos
  clear h
  have : ∀ M : List Ct, (∀ c ∈ M, c ∈ L) → ofC x M = 0 ∨ ∃ c ∈ L, ofC x M = c.k := by
    intro M
    induction M with
    | nil => intro _; exact .inl rfl
    | cons c r ih =>
      intro hM
      unfold ofC
      split
      · exact .inr ⟨c, hM c List.mem_cons_self, rfl⟩
      · exact ih fun d hd => hM d (List.mem_cons_of_mem _ hd)
  rcases this L fun _ h => h with h | ⟨c, hc, h⟩
  · rw [h]; exact ⟨by omega, h1.1⟩
  · rw [h]
    have := h2 c hc
    exact ⟨by omega, h1.2 c hc⟩
/-- All blocks but these are kept. -/
structure SaveL (S : List Nat) (w w' : World) : Prop where
  os : w'.os = w.os
  tape : w'.tape = w.tape
  output : w'.output = w.output
  size : w.heap.size ≤ w'.heap.size
  block : ∀ k, k < w.heap.size → k ∉ S → w'.heap[k]? = w.heap[k]?
theorem SaveL.refl (S : List Nat) (w : World) : SaveL S w w := ⟨rfl, rfl, rfl, Nat.le_refl _, fun _ _ _ => rfl⟩
theorem SaveL.trans {S : List Nat} {a b c : World} (h : SaveL S a b) (h' : SaveL S b c) : SaveL S a c :=
  ⟨h'.os.trans h.os, h'.tape.trans h.tape, h'.output.trans h.output, Nat.le_trans h.size h'.size, fun k hk hS => (h'.block k (Nat.lt_of_lt_of_le hk h.size) hS).trans (h.block k hk hS)⟩
theorem SaveL.of_below {S : List Nat} {w w' : World} (h : Below w.heap.size w w') : SaveL S w w' := ⟨h.os, h.tape, h.output, h.size, fun k hk _ => h.block k hk⟩
theorem SaveL.below {S : List Nat} {B : Nat} {w w' : World} (h : SaveL S w w') (hB : B ≤ w.heap.size) (hS : ∀ k ∈ S, B ≤ k) : Below B w w' :=
  ⟨h.os, h.tape, h.output, h.size, fun k hk => h.block k (by omega) fun hm => by have := hS k hm; omega⟩
theorem SaveL.of_grown {S : List Nat} {w w' : World} {b : Nat} (h : w.grownBy w' (some b)) (hb : b ∈ S) : SaveL S w w' :=
  ⟨h.os, h.tape, h.output, h.size, fun k hk hS => h.block k hk (fun e => by cases e; exact hS hb)⟩
theorem SaveL.setCell {S : List Nat} {w : World} (a : Addr) (v : Value) (hb : a.block ∈ S) : SaveL S w (w.setCell a v) :=
  ⟨rfl, rfl, rfl, ((Below.refl 0 w).setCell (Nat.zero_le _) v).size, fun k _ hS => Below.heap_setCell _ _ _ k (fun e => hS (e ▸ hb))⟩
/-- A meter as it lies. -/
structure MtAt (w : World) (b g n : Nat) (D : DataW Unit) (m : Int) (L : List Ct) : Prop where
  box : w.heap[b]? = some (.cells #[.int .i64 m, .int .i64 (sumC L), .map (some g)] 49)
  own : w.ownsMap Tryd.prog 9 (plainElem Tryd.prog 3) g n D
  has : ∀ x : ByteArray, Maps.has D (.string x.data.toList) = true ↔ x ∈ namesC L
  val : ∀ x : ByteArray, D.atKey (.string x.data.toList) (.lit (.int .i64 0)) = .lit (.int .i64 (ofC x L))
  len : Maps.size D ≤ L.length
theorem MtAt.save {w w' : World} {b g n : Nat} {D : DataW Unit} {m : Int} {L : List Ct} {S : List Nat} (h : MtAt w b g n D m L) (hs : SaveL S w w') (hb : b ∉ S) (hg : g ∉ S) : MtAt w' b g n D m L := by
  have h1 : w'.heap[b]? = _ := (hs.block b (Array.getElem?_eq_some_iff.1 h.box).1 hb).trans h.box
  refine ⟨h1, ?_, h.has, h.val, h.len⟩
  obtain ⟨es, clock, hh, h2⟩ := h.own
  exact ⟨es, clock, (hs.block g (Array.getElem?_eq_some_iff.1 hh).1 hg).trans hh, h2⟩
theorem MtAt.below {w w' : World} {b g n : Nat} {D : DataW Unit} {m : Int} {L : List Ct} (h : MtAt w b g n D m L) (hs : Below w.heap.size w w') : MtAt w' b g n D m L :=
  h.save (S := []) (.of_below hs) (by simp) (by simp)
theorem lawK : Keyed Tryd.prog 9 := string_keyed Tryd.underlying9
theorem zeroInt (w : World) : (zeroValue 3).run Tryd.prog w = .ok (.int .i64 0) w := by kernel_rfl
theorem key_txt {s : ByteArray} (h : s.size ≤ maxLen) : keyOf Tryd.prog 9 (.string s) = some (.string s.data.toList) := Go.WideMaps.keyOf_string_mk Tryd.underlying9 h
theorem lit_ne {x s : ByteArray} (he : x ≠ s) : (Lit.string x.data.toList) ≠ (Lit.string s.data.toList) := fun e => he (by
  have e1 : x.data.toList = s.data.toList := by simpa using e
  obtain ⟨⟨x⟩⟩ := x
  obtain ⟨⟨s⟩⟩ := s
  simp only at e1
  rw [e1])
theorem cell_map {w : World} {b g : Nat} {m s : Int} (h : w.heap[b]? = some (.cells #[.int .i64 m, .int .i64 s, .map (some g)] 49)) :
    (w.cell? ⟨b, 0, none⟩ = some (.int .i64 m) ∧ w.cell? ⟨b, 1, none⟩ = some (.int .i64 s) ∧ w.cell? ⟨b, 2, none⟩ = some (.map (some g))) ∧ w.frozen? ⟨b, 1, none⟩ = false ∧ w.frozen? ⟨b, 2, none⟩ = false := by
  simp [World.cell?, World.frozen?, h]

open Classical in
theorem MtAt.put {w w' : World} {b g n : Nat} {D : DataW Unit} {m : Int} {L : List Ct} (h : MtAt w b g n D m L) {s : ByteArray} {k : Int} (hs : s.size ≤ maxLen) (hL : StrictT (namesC L)) (hbg : b ≠ g)
    (hown : w'.ownsMap Tryd.prog 9 (plainElem Tryd.prog 3) g (n + 1) (D.put (.string s.data.toList) (.lit (.int .i64 (ofC s L + k))))) (hg : w.grownBy w' (some g)) :
    MtAt (w'.setCell ⟨b, 1, none⟩ (.int .i64 (sumC L + k))) b g (n + 1) (D.put (.string s.data.toList) (.lit (.int .i64 (ofC s L + k)))) m (addC s k L) ∧ SaveL [b, g] w (w'.setCell ⟨b, 1, none⟩ (.int .i64 (sumC L + k))) := by
  have ht := h.own.tidy lawK
  have hb : w'.heap[b]? = some (.cells #[.int .i64 m, .int .i64 (sumC L), .map (some g)] 49) :=
    ((SaveL.of_grown (S := [g]) hg (by simp)).block b (Array.getElem?_eq_some_iff.1 h.box).1 (by simpa using hbg)).trans h.box
  refine ⟨⟨?_, ?_, fun x => ?_, fun x => ?_, ?_⟩, (SaveL.of_grown hg (by simp)).trans (SaveL.setCell _ _ (by simp))⟩
  · rw [sum_add]
    simp [World.setCell, Array.getElem?_modify, hb]
  · obtain ⟨es, clock, hh, h2⟩ := hown
    exact ⟨es, clock, by rw [Below.heap_setCell _ _ _ g hbg.symm]; exact hh, h2⟩
  · rw [names_add]
    by_cases he : x = s
    · subst he
      rw [has_put_same ht.isMap (by simp [WideAt.IsKeyLit])]
      simp
    · rw [has_put_other (lit_ne he), h.has]
      simp [he]
  · rw [of_add _ _ _ _ hL]
    by_cases he : x = s
    · subst he
      rw [atKey_put_same ht.isMap (by simp [WideAt.IsKeyLit]), if_pos rfl]
    · rw [atKey_put_other (lit_ne he), h.val, if_neg he, Int.add_zero]
  · rw [size_put ht]
    have h3 := h.len
    have hin := h.has s
    have hln : (addC s k L).length = if s ∈ namesC L then L.length else L.length + 1 := by
      have h5 : (namesC (addC s k L)).length = (addC s k L).length := by simp [namesC]
      have h6 := (strict_add s k L hL).nodup
      have h7 := hL.nodup
      rw [← h5]
      split
      · rename_i hm
        have hp : (namesC (addC s k L)).Perm (namesC L) := (List.perm_ext_iff_of_nodup h6 h7).2 fun x => by rw [names_add]; exact ⟨fun h => by rcases h with rfl | h; exact hm; exact h, .inr⟩
        rw [hp.length_eq]; simp [namesC]
      · rename_i hm
        have hp : (namesC (addC s k L)).Perm (s :: namesC L) := (List.perm_ext_iff_of_nodup h6 (List.nodup_cons.2 ⟨hm, h7⟩)).2 fun x => by rw [names_add, List.mem_cons]
        rw [hp.length_eq]; simp [namesC]
    rw [hln]
    by_cases hm : s ∈ namesC L
    · rw [if_pos (hin.2 hm), if_pos hm]; exact h3
    · have hf : Maps.has D (.string s.data.toList) = false := by
        cases hh : Maps.has D (.string s.data.toList)
        · rfl
        · exact absurd (hin.1 hh) hm
      rw [hf, if_neg hm]
      simp; omega
theorem mtAt_made (w : World) (m : Int) : MtAt ((w.alloc (.map #[] 0)).alloc (.cells #[.int .i64 m, .int .i64 0, .map (some w.heap.size)] 49)) (w.heap.size + 1) w.heap.size 0 (.map []) m [] := by
  refine ⟨?_, (World.ownsMap_made _ _ _ _).alloc _, fun x => by simp [Maps.has, namesC], fun x => by rfl, by simp [Maps.size]⟩
  have := heap_alloc_new (w.alloc (.map #[] 0)) (.cells #[.int .i64 m, .int .i64 0, .map (some w.heap.size)] 49)
  rwa [show (w.alloc (.map #[] 0)).heap.size = w.heap.size + 1 by show (w.heap.push _).size = _; simp] at this
end Go.Proofs.YtoijkbnjcnedjaaDoor
/-
  METERS: New, Left, All, Of and Add, by contract.
-/
namespace Go.Proofs.YtoijkbnjcnedjaaDoor
open Go.ChangeShapes Go.WideShapes Go.ChangeAt Go.RowKit Go.Maps

set_option maxHeartbeats 800000 in
theorem mnew_c (m : Int) (w : World) (hm : 0 ≤ m) (hm2 : m ≤ 1000000000000) :
    Calls Tryd.prog 5 #[.int .i64 m] w fun e w' => e = .returned (.tuple #[.pointer (some ⟨w.heap.size + 1, 0, none⟩), .int .i64 0]) ∧ Hid (MtAt w' (w.heap.size + 1) w.heap.size 0 (.map []) m []) ∧ Hid (Below w.heap.size w w') ∧ Hid (w'.heap.size = w.heap.size + 2) := by
  have hmm := @run_makeMap Tryd.prog
  have h1 : ¬ m < 0 := by omega
  have h2 : ¬ 1000000000000 < m := by omega
  have hM := hidden (mtAt_made w m)
  have hB := hidden (((Below.refl w.heap.size w).alloc (Nat.le_refl _) (.map #[] 0)).alloc (by simp) (.cells #[.int .i64 m, .int .i64 0, .map (some w.heap.size)] 49))
  go_enter Tryd.func5, Tryd.ntmps5
  go_wp2
  go_ret2
  exact ⟨rfl, hM, hB, hidden (by simp)⟩
set_option maxHeartbeats 800000 in
theorem mnewNone_c (m : Int) (w : World) (hm : m < 0 ∨ 1000000000000 < m) :
    Calls Tryd.prog 5 #[.int .i64 m] w fun e w' => e = .returned (.tuple #[.pointer none, .int .i64 1]) ∧ w' = w := by
  rcases hm with h1 | h2
  · go_enter Tryd.func5, Tryd.ntmps5
    go_wp2
    go_ret2
    exact ⟨rfl, rfl⟩
  · have h1 : ¬ m < 0 := by omega
    go_enter Tryd.func5, Tryd.ntmps5
    go_wp2
    go_ret2
    exact ⟨rfl, rfl⟩
set_option maxHeartbeats 800000 in
theorem mall_c {b g n : Nat} {D : DataW Unit} {m : Int} {L : List Ct} (w : World) (h : MtAt w b g n D m L) :
    Calls Tryd.prog 17 #[.pointer (some ⟨b, 0, none⟩)] w fun e w' => e = .returned (.int .i64 (sumC L)) ∧ w' = w := by
  obtain ⟨⟨c0, c1, c2⟩, -⟩ := cell_map h.box
  go_enter Tryd.func17, Tryd.ntmps17
  go_wp2
  go_ret
  exact ⟨rfl, rfl⟩
set_option maxHeartbeats 800000 in
theorem mleft_c {b g n : Nat} {D : DataW Unit} {m : Int} {L : List Ct} (w : World) (h : MtAt w b g n D m L) (hm : 0 ≤ m) (hm2 : m ≤ 1000000000000) (h0 : 0 ≤ sumC L) (h1 : sumC L ≤ m) :
    Calls Tryd.prog 18 #[.pointer (some ⟨b, 0, none⟩)] w fun e w' => e = .returned (.int .i64 (m - sumC L)) ∧ Hid (Below w.heap.size w w') := by
  obtain ⟨⟨c0, c1, c2⟩, -⟩ := cell_map h.box
  have hB := hidden ((Below.refl w.heap.size w).drew)
  have hw : IntKind.i64.wrap (m - sumC L) = m - sumC L := by rw [IntKind.wrap_i64]; omega
  clear h
  go_enter Tryd.func18, Tryd.ntmps18
  go_wp2
  go_region
  go_wp2
  go_ret
  exact ⟨rfl, hB⟩
set_option maxHeartbeats 800000 in
theorem mof_c {b g n : Nat} {D : DataW Unit} {m : Int} {L : List Ct} (s : ByteArray) (w : World) (h : MtAt w b g n D m L) (hs : s.size ≤ 1000) :
    Calls Tryd.prog 19 #[.pointer (some ⟨b, 0, none⟩), .string s] w fun e w' => e = .returned (.int .i64 (ofC s L)) ∧ w' = w := by
  obtain ⟨⟨c0, c1, c2⟩, -⟩ := cell_map h.box
  have hkey := hidden (key_txt (s := s) (by unfold maxLen; omega))
  have hv := hidden (h.val s)
  have hown := h.own
  clear h
  go_enter Tryd.func19, Tryd.ntmps19
  go_wp2_with (first
    | (at_lookup; refine wpList_lookup_own_int _ rfl _ _ 47 rfl 9 3 .i64 lawK Tryd.underlying47 Tryd.underlying3 (zeroInt _) g n D rfl hown _ _ rfl hkey.out ?_; intro cc hat hwc; have hcc := hidden (hat.symm.trans hv.out))
    | go_in)
  go_ret
  have := hcc.out
  simp only [DataW.lit.injEq, Lit.int.injEq, true_and] at this
  exact ⟨by rw [this]; rfl, rfl⟩
/-- What Add answers. -/
noncomputable def addAns (m : Int) (L : List Ct) (s : ByteArray) (n : Int) : Int := if ¬ nameS s then 2 else if n < 0 then 1 else if n > m - sumC L then 3 else 0
noncomputable def addTo (m : Int) (L : List Ct) (s : ByteArray) (n : Int) : List Ct := if nameS s ∧ 0 < n ∧ n ≤ m - sumC L then addC s n L else L
set_option maxHeartbeats 3200000 in
set_option maxRecDepth 100000 in
theorem madd_c {b g n : Nat} {D : DataW Unit} {m : Int} {L : List Ct} (s : ByteArray) (k : Int) (w : World) (h : MtAt w b g n D m L) (hF : Fine m L) (hm : 0 ≤ m) (hm2 : m ≤ 1000000000000) (hs : s.size ≤ 40) (hn : n ≤ 100000) (hbg : b ≠ g) :
    Calls Tryd.prog 8 #[.pointer (some ⟨b, 0, none⟩), .string s, .int .i64 k] w fun e w' => ∃ (n' : Nat) (D' : DataW Unit), e = .returned (.int .i64 (addAns m L s k)) ∧ Hid (MtAt w' b g n' D' m (addTo m L s k)) ∧ Hid (SaveL [b, g] w w') ∧ Hid (n' ≤ n + 1) := by
  have hnc := name_c s w (by omega)
  by_cases hns : nameS s
  case neg =>
    have hans : Hid (addAns m L s k = 2 ∧ addTo m L s k = L) := by
      show _ ∧ _
      unfold addAns addTo
      simp [hns]
    have hM := hidden h
    clear h hF
    rw [show decide (nameS s) = false by simpa using hns] at hnc
    go_enter Tryd.func8, Tryd.ntmps8
    go_wp2_with fail
    refine hnc.mono ?_
    rintro e w' ⟨rfl, rfl⟩
    go_wp2
    go_ret
    exact ⟨n, D, by rw [hans.out.1]; rfl, by rw [hans.out.2]; exact hM, SaveL.refl _ _, Nat.le_succ _⟩
  case pos =>
    rw [show decide (nameS s) = true by simpa using hns] at hnc
    by_cases hk0 : k < 0
    · have hans : Hid (addAns m L s k = 1 ∧ addTo m L s k = L) := by
        show _ ∧ _
        unfold addAns addTo
        have : ¬ 0 < k := by omega
        simp [hns, hk0, this]
      have hM := hidden h
      clear h hF
      go_enter Tryd.func8, Tryd.ntmps8
      go_wp2_with fail
      refine hnc.mono ?_
      rintro e w' ⟨rfl, rfl⟩
      go_wp2
      go_ret
      exact ⟨n, D, by rw [hans.out.1]; rfl, by rw [hans.out.2]; exact hM, SaveL.refl _ _, Nat.le_succ _⟩
    · have hleft := mleft_c w h hm hm2 hF.nonneg hF.small
      have hS0 := hF.nonneg
      have hS1 := hF.small
      by_cases hkm : m - sumC L < k
      · have hans : Hid (addAns m L s k = 3 ∧ addTo m L s k = L) := by
          show _ ∧ _
          unfold addAns addTo
          have : ¬ k ≤ m - sumC L := by omega
          simp [hns, hk0, hkm, this]
        have hM := hidden h
        clear h hF
        go_enter Tryd.func8, Tryd.ntmps8
        go_wp2_with fail
        refine hnc.mono ?_
        rintro e w' ⟨rfl, rfl⟩
        go_wp2_with fail
        refine hleft.mono ?_
        rintro e w1 ⟨rfl, hB⟩
        go_wp2
        go_ret
        exact ⟨n, D, by rw [hans.out.1]; rfl, by rw [hans.out.2]; exact hM.out.below hB.out, SaveL.of_below hB.out, Nat.le_succ _⟩
      · have hans : Hid (addAns m L s k = 0) := by
          show _ = _
          unfold addAns
          simp [hns, hk0, hkm]
        by_cases hk1 : 0 < k
        · have hto : Hid (addTo m L s k = addC s k L) := by
            show _ = _
            unfold addTo
            rw [if_pos ⟨hns, hk1, by omega⟩]
          have hkey := hidden (key_txt (s := s) (by unfold maxLen; omega))
          have hv := hidden (h.val s)
          have hM := hidden h
          have hof := hF.of s
          have hw1 : IntKind.i64.wrap (ofC s L + k) = ofC s L + k := by rw [IntKind.wrap_i64]; omega
          have hw2 : IntKind.i64.wrap (sumC L + k) = sumC L + k := by rw [IntKind.wrap_i64]; omega
          have hwf := hidden (show (Lit.int .i64 (ofC s L + k)).wf = true by rw [← hw1, show IntKind.i64.wrap (ofC s L + k) = wrap64 (ofC s L + k) from Go.IntWalk.i64_left _]; exact wrap64_wf _)
          have hst := hidden hF.strict
          have hnm : n < maxLen := by unfold maxLen; omega
          have hsm : s.size ≤ maxLen := by unfold maxLen; omega
          clear h hF hns
          go_enter Tryd.func8, Tryd.ntmps8
          go_wp2_with fail
          refine hnc.mono ?_
          rintro e w' ⟨rfl, rfl⟩
          go_wp2_with fail
          refine hleft.mono ?_
          rintro e w1 ⟨rfl, hB⟩
          have hM1 := hidden (hM.out.below hB.out)
          obtain ⟨⟨c0, c1, c2⟩, f1, -⟩ := cell_map hM1.out.box
          go_wp2_with (first
            | (at_lookup; refine wpList_lookup_own_int _ rfl _ _ 47 rfl 9 3 .i64 lawK Tryd.underlying47 Tryd.underlying3 (zeroInt _) g n D rfl hM1.out.own _ _ rfl hkey.out ?_; intro cc hat hwc; have hcc := hat.symm.trans hv.out; simp only [DataW.lit.injEq, Lit.int.injEq, true_and] at hcc; subst hcc; clear hat hwc)
            | (at_mapUpdate; go_loud (refine wpList_mapUpdate_own _ rfl _ _ _ 47 rfl 9 3 lawK Tryd.underlying47 _ g n _ rfl hM1.out.own hnm _ _ _ rfl rfl hkey.out _ [] (plainElem_int Tryd.underlying3 hwf.out) ?_); intro w2 hown2 hgrow2; have hput := hidden (hM1.out.put (k := k) hsm hst.out hbg hown2 hgrow2); have d1 : w2.cell? ⟨b, 1, none⟩ = some (.int .i64 (sumC L)) := ((cell_map ((SaveL.of_grown (S := [g]) hgrow2 (by simp)).block b (Array.getElem?_eq_some_iff.1 hM1.out.box).1 (by simpa using hbg) |>.trans hM1.out.box)).1).2.1; have d2 : w2.frozen? ⟨b, 1, none⟩ = false := (cell_map ((SaveL.of_grown (S := [g]) hgrow2 (by simp)).block b (Array.getElem?_eq_some_iff.1 hM1.out.box).1 (by simpa using hbg) |>.trans hM1.out.box)).2.1; clear hown2 hgrow2)
            | go_in)
          go_ret
          refine ⟨n + 1, D.put (.string s.data.toList) (.lit (.int .i64 (ofC s L + k))), by rw [hans.out]; rfl, ?_, ?_, Nat.le_refl _⟩
          · rw [hto.out]; exact hput.out.1
          · exact (SaveL.of_below hB.out).trans hput.out.2
        · have hto : Hid (addTo m L s k = L) := by
            show _ = _
            unfold addTo
            rw [if_neg (fun h => hk1 h.2.1)]
          have hM := hidden h
          clear h hF hns
          go_enter Tryd.func8, Tryd.ntmps8
          go_wp2_with fail
          refine hnc.mono ?_
          rintro e w' ⟨rfl, rfl⟩
          go_wp2_with fail
          refine hleft.mono ?_
          rintro e w1 ⟨rfl, hB⟩
          go_wp2
          go_ret
          exact ⟨n, D, by rw [hans.out]; rfl, by rw [hto.out]; exact hM.out.below hB.out, SaveL.of_below hB.out, Nat.le_succ _⟩
end Go.Proofs.YtoijkbnjcnedjaaDoor
