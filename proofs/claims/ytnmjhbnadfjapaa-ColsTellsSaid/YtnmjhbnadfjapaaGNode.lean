/-
  LETTERS, DIGITS, NAMES: the program's and the reference's, by contract.
-/
import Derived.Test.YtnmjhbnadfjapaaVGood3
import Derived.WalkKit
import Derived.WalkSpells
import Derived.ProofKit
import Derived.OpenShut
import Derived.Deep.QuietTactic
import Derived.BigQuiet
import Derived.Test.YtnmjhbnadfjapaaGRel
import Derived.Test.YtnmjhbnadfjapaaGFew
namespace Go.Proofs.Ytnmjhbnadfjapaa
open Go.ChangeShapes Go.WideShapes Go.ChangeAt Go.RowKit

theorem retB {a b : Bool} (h : a = b) : Ending.returned (.bool a) = Ending.returned (.bool b) := by rw [h]
def isLet (b : Int) : Bool := (decide (97 ≤ b) && decide (b ≤ 122)) || (decide (65 ≤ b) && decide (b ≤ 90))
def isDig (b : Int) : Bool := decide (48 ≤ b) && decide (b ≤ 57)
def okB (b : Int) : Bool := isLet b || isDig b || decide (b = 95)

theorem letter_c (b : Int) (w : World) : Calls Try.prog 89 #[.int .u8 b] w fun e w' => e = .returned (.bool (isLet b)) ∧ w' = w := by
  by_cases h1 : 97 ≤ b <;> by_cases h2 : b ≤ 122 <;> by_cases h3 : 65 ≤ b <;> by_cases h4 : b ≤ 90 <;> first | (exfalso; omega) | skip
  all_goals
    go_enter Try.func89, Try.ntmps89
    go_wp2
    go_ret
    exact ⟨retB (by unfold isLet; simp [h1, h2, h3, h4]), rfl⟩
theorem rletter_c (b : Int) (w : World) : Calls Try.prog 67 #[.int .u8 b] w fun e w' => e = .returned (.bool (isLet b)) ∧ w' = w := by
  by_cases h1 : 97 ≤ b <;> by_cases h2 : b ≤ 122 <;> by_cases h3 : 65 ≤ b <;> by_cases h4 : b ≤ 90 <;> first | (exfalso; omega) | skip
  all_goals
    go_enter Try.func67, Try.ntmps67
    go_wp2
    go_ret
    exact ⟨retB (by unfold isLet; simp [h1, h2, h3, h4]), rfl⟩
theorem digit_c (b : Int) (w : World) : Calls Try.prog 90 #[.int .u8 b] w fun e w' => e = .returned (.bool (isDig b)) ∧ w' = w := by
  by_cases h1 : 48 ≤ b <;> by_cases h2 : b ≤ 57 <;> first | (exfalso; omega) | skip
  all_goals
    go_enter Try.func90, Try.ntmps90
    go_wp2
    go_ret
    exact ⟨retB (by unfold isDig; simp [h1, h2]), rfl⟩
theorem rdigit_c (b : Int) (w : World) : Calls Try.prog 68 #[.int .u8 b] w fun e w' => e = .returned (.bool (isDig b)) ∧ w' = w := by
  by_cases h1 : 48 ≤ b <;> by_cases h2 : b ≤ 57 <;> first | (exfalso; omega) | skip
  all_goals
    go_enter Try.func68, Try.ntmps68
    go_wp2
    go_ret
    exact ⟨retB (by unfold isDig; simp [h1, h2]), rfl⟩

/-- The k-th byte of a text. -/
def nameS (s : ByteArray) : Prop := 1 ≤ s.size ∧ s.size ≤ 30 ∧ isLet (byteAt s 0) = true ∧ ∀ k, k < s.size → okB (byteAt s k) = true
instance (s : ByteArray) : Decidable (nameS s) := by unfold nameS; infer_instance

set_option maxHeartbeats 1600000 in
set_option maxRecDepth 100000 in
theorem name_c (s : ByteArray) (w : World) (hs : s.size ≤ 1000) : Calls Try.prog 75 #[.string s] w fun e w' => e = .returned (.bool (decide (nameS s))) ∧ w' = w := by
  have hlet := fun b w => letter_c b w
  have hdig := fun b w => digit_c b w
  obtain ⟨R, hR⟩ : ∃ R, Hid (decide (nameS s) = R) := ⟨_, (rfl : decide (nameS s) = _)⟩
  rw [hR.out]
  by_cases h1 : s.size < 1
  · have e : Hid (R = false) := by show _ = _; rw [← hR.out]; exact decide_eq_false fun h => by have := h.1; omega
    rw [e.out]
    clear hR
    go_enter Try.func75, Try.ntmps75
    go_wp2
    go_ret
    exact ⟨rfl, rfl⟩
  · by_cases h2 : 30 < s.size
    · have e : Hid (R = false) := by show _ = _; rw [← hR.out]; exact decide_eq_false fun h => by have := h.2.1; omega
      rw [e.out]
      clear hR
      go_enter Try.func75, Try.ntmps75
      go_wp2
      go_ret
      exact ⟨rfl, rfl⟩
    · have hb0 := byteAt_eq (s := s) (k := 0) (by omega)
      have h0 : 0 < s.size := by omega
      have hl0 := hlet (s[0].toNat : Int)
      rw [hb0] at hl0
      cases hc : isLet (byteAt s 0) with
      | false =>
        have e : Hid (R = false) := by show _ = _; rw [← hR.out]; exact decide_eq_false fun h => by have := h.2.2.1; rw [hc] at this; cases this
        rw [e.out]
        rw [hc] at hl0
        clear hR hlet
        go_enter Try.func75, Try.ntmps75
        go_wp2_with (go_at_call 89; refine (hl0 _).mono ?_; rintro e w' ⟨rfl, rfl⟩)
        go_ret
        exact ⟨rfl, rfl⟩
      | true =>
        rw [hc] at hl0
        go_enter Try.func75, Try.ntmps75
        go_wp2_with (go_at_call 89; refine (hl0 _).mono ?_; rintro e w' ⟨rfl, rfl⟩)
        clear hl0
        go_loop [20] (fun i => ∃ k : Nat, i = .int .i64 k ∧ k ≤ s.size ∧ Hid (∀ j, j < k → okB (byteAt s j) = true)) (fun i => s.size - (intOf i).toNat)
        case atStart => exact ⟨0, rfl, Nat.zero_le _, fun j hj => by omega⟩
        case round =>
          obtain ⟨k, rfl, hk, hH⟩ := hrel
          by_cases hlt : k < s.size
          · have hbk := byteAt_eq hlt
            have hlk := hlet (s[k].toNat : Int)
            have hdk := hdig (s[k].toNat : Int)
            rw [hbk] at hlk hdk
            have hgood : okB (byteAt s k) = true → Hid (∀ j, j < k + 1 → okB (byteAt s j) = true) := fun h j hj => by
              rcases Nat.lt_or_ge j k with h' | h'
              · exact hH.out j h'
              · obtain rfl : j = k := by omega
                exact h
            have hbad : okB (byteAt s k) = false → Hid (R = false) := fun h => by
              show _ = _
              rw [← hR.out]
              exact decide_eq_false fun hn => by have := hn.2.2.2 k hlt; rw [h] at this; cases this
            clear hR hH hlet hdig hc hb0
            cases hA : isLet (byteAt s k) with
            | true =>
              have hg := hgood (by unfold okB; rw [hA]; rfl)
              rw [hA] at hlk
              clear hgood hbad hdk
              generalize byteAt s k = b at *
              go_wp2_with (go_at_call 89; refine (hlk _).mono ?_; rintro e w' ⟨rfl, rfl⟩)
              go_round
              case rel => exact ⟨k + 1, by go_num, by omega, hg⟩
              case measure => simp [intOf]; omega
            | false =>
              rw [hA] at hlk
              cases hB : isDig (byteAt s k) with
              | true =>
                have hg := hgood (by unfold okB; rw [hA, hB]; rfl)
                rw [hB] at hdk
                clear hgood hbad
                generalize byteAt s k = b at *
                go_wp2_with (first
                  | (go_at_call 89; refine (hlk _).mono ?_; rintro e w' ⟨rfl, rfl⟩)
                  | (go_at_call 90; refine (hdk _).mono ?_; rintro e w' ⟨rfl, rfl⟩))
                go_round
                case rel => exact ⟨k + 1, by go_num, by omega, hg⟩
                case measure => simp [intOf]; omega
              | false =>
                rw [hB] at hdk
                by_cases hU : byteAt s k = 95
                · have hg := hgood (by unfold okB; rw [hA, hB, hU]; rfl)
                  have hd : (byteAt s k != 95) = false := by rw [hU]; rfl
                  have hUH : Hid (byteAt s k = 95) := hU
                  clear hgood hbad hU
                  generalize byteAt s k = b at *
                  go_wp2_with (first
                    | (go_at_call 89; refine (hlk _).mono ?_; rintro e w' ⟨rfl, rfl⟩)
                    | (go_at_call 90; refine (hdk _).mono ?_; rintro e w' ⟨rfl, rfl⟩))
                  go_round
                  case rel => exact ⟨k + 1, by go_num, by omega, hg⟩
                  case measure => simp [intOf]; omega
                · have hg := hbad (by unfold okB; rw [hA, hB]; simp [hU])
                  have hd : (byteAt s k != 95) = true := by simp [hU]
                  clear hgood hbad
                  generalize byteAt s k = b at *
                  go_wp2_with (first
                    | (go_at_call 89; refine (hlk _).mono ?_; rintro e w' ⟨rfl, rfl⟩)
                    | (go_at_call 90; refine (hdk _).mono ?_; rintro e w' ⟨rfl, rfl⟩))
                  go_ret
                  exact ⟨retB hg.out.symm, rfl⟩
          · have hT : Hid (R = true) := by
              show _ = _
              rw [← hR.out]
              exact decide_eq_true ⟨by omega, by omega, hc, fun j hj => hH.out j (by omega)⟩
            clear hR hH hlet hdig hc hb0
            go_wp2
            go_ret
            exact ⟨retB hT.out.symm, rfl⟩

set_option maxHeartbeats 1600000 in
set_option maxRecDepth 100000 in
theorem rname_c (s : ByteArray) (w : World) (hs : s.size ≤ 1000) : Calls Try.prog 44 #[.string s] w fun e w' => e = .returned (.bool (decide (nameS s))) ∧ w' = w := by
  have hlet := fun b w => rletter_c b w
  have hdig := fun b w => rdigit_c b w
  obtain ⟨R, hR⟩ : ∃ R, Hid (decide (nameS s) = R) := ⟨_, (rfl : decide (nameS s) = _)⟩
  rw [hR.out]
  by_cases h1 : s.size < 1
  · have e : Hid (R = false) := by show _ = _; rw [← hR.out]; exact decide_eq_false fun h => by have := h.1; omega
    rw [e.out]
    clear hR
    obtain rfl : s = ⟨#[]⟩ := by apply ByteArray.ext; apply Array.eq_empty_of_size_eq_zero; have : s.data.size = s.size := rfl; omega
    go_enter Try.func44, Try.ntmps44
    go_wp2
    go_ret
    exact ⟨rfl, rfl⟩
  · have hsn : s.toList.isEmpty = false := by
      rw [Go.ByteArray.toList_eq, List.isEmpty_eq_false_iff]
      intro e
      have := congrArg List.length e
      rw [Array.length_toList] at this
      exact h1 (by show s.data.size < 1; rw [this]; decide)
    by_cases h2 : 30 < s.size
    · have e : Hid (R = false) := by show _ = _; rw [← hR.out]; exact decide_eq_false fun h => by have := h.2.1; omega
      rw [e.out]
      clear hR
      go_enter Try.func44, Try.ntmps44
      go_wp2
      go_ret
      exact ⟨rfl, rfl⟩
    · have hb0 := byteAt_eq (s := s) (k := 0) (by omega)
      have h0 : 0 < s.size := by omega
      have hl0 := hlet (s[0].toNat : Int)
      rw [hb0] at hl0
      cases hc : isLet (byteAt s 0) with
      | false =>
        have e : Hid (R = false) := by show _ = _; rw [← hR.out]; exact decide_eq_false fun h => by have := h.2.2.1; rw [hc] at this; cases this
        rw [e.out]
        rw [hc] at hl0
        clear hR hlet
        go_enter Try.func44, Try.ntmps44
        go_wp2_with (go_at_call 67; refine (hl0 _).mono ?_; rintro e w' ⟨rfl, rfl⟩)
        go_ret
        exact ⟨rfl, rfl⟩
      | true =>
        rw [hc] at hl0
        go_enter Try.func44, Try.ntmps44
        go_wp2_with (go_at_call 67; refine (hl0 _).mono ?_; rintro e w' ⟨rfl, rfl⟩)
        clear hl0
        go_loop [3] (fun i => ∃ k : Nat, i = .int .i64 k ∧ k ≤ s.size ∧ Hid (∀ j, j < k → okB (byteAt s j) = true)) (fun i => s.size - (intOf i).toNat)
        case atStart => exact ⟨0, rfl, Nat.zero_le _, fun j hj => by omega⟩
        case round =>
          obtain ⟨k, rfl, hk, hH⟩ := hrel
          by_cases hlt : k < s.size
          · have hbk := byteAt_eq hlt
            have hlk := hlet (s[k].toNat : Int)
            have hdk := hdig (s[k].toNat : Int)
            rw [hbk] at hlk hdk
            have hgood : okB (byteAt s k) = true → Hid (∀ j, j < k + 1 → okB (byteAt s j) = true) := fun h j hj => by
              rcases Nat.lt_or_ge j k with h' | h'
              · exact hH.out j h'
              · obtain rfl : j = k := by omega
                exact h
            have hbad : okB (byteAt s k) = false → Hid (R = false) := fun h => by
              show _ = _
              rw [← hR.out]
              exact decide_eq_false fun hn => by have := hn.2.2.2 k hlt; rw [h] at this; cases this
            clear hR hH hlet hdig hc hb0
            cases hA : isLet (byteAt s k) with
            | true =>
              have hg := hgood (by unfold okB; rw [hA]; rfl)
              rw [hA] at hlk
              clear hgood hbad hdk
              generalize byteAt s k = b at *
              go_wp2_with (go_at_call 67; refine (hlk _).mono ?_; rintro e w' ⟨rfl, rfl⟩)
              go_round
              case rel => exact ⟨k + 1, by go_num, by omega, hg⟩
              case measure => simp [intOf]; omega
            | false =>
              rw [hA] at hlk
              cases hB : isDig (byteAt s k) with
              | true =>
                have hg := hgood (by unfold okB; rw [hA, hB]; rfl)
                rw [hB] at hdk
                clear hgood hbad
                generalize byteAt s k = b at *
                go_wp2_with (first
                  | (go_at_call 67; refine (hlk _).mono ?_; rintro e w' ⟨rfl, rfl⟩)
                  | (go_at_call 68; refine (hdk _).mono ?_; rintro e w' ⟨rfl, rfl⟩))
                go_round
                case rel => exact ⟨k + 1, by go_num, by omega, hg⟩
                case measure => simp [intOf]; omega
              | false =>
                rw [hB] at hdk
                by_cases hU : byteAt s k = 95
                · have hg := hgood (by unfold okB; rw [hA, hB, hU]; rfl)
                  have hd : (byteAt s k != 95) = false := by rw [hU]; rfl
                  have hUH : Hid (byteAt s k = 95) := hU
                  clear hgood hbad hU
                  generalize byteAt s k = b at *
                  go_wp2_with (first
                    | (go_at_call 67; refine (hlk _).mono ?_; rintro e w' ⟨rfl, rfl⟩)
                    | (go_at_call 68; refine (hdk _).mono ?_; rintro e w' ⟨rfl, rfl⟩))
                  go_round
                  case rel => exact ⟨k + 1, by go_num, by omega, hg⟩
                  case measure => simp [intOf]; omega
                · have hg := hbad (by unfold okB; rw [hA, hB]; simp [hU])
                  have hd : (byteAt s k != 95) = true := by simp [hU]
                  clear hgood hbad
                  generalize byteAt s k = b at *
                  go_wp2_with (first
                    | (go_at_call 67; refine (hlk _).mono ?_; rintro e w' ⟨rfl, rfl⟩)
                    | (go_at_call 68; refine (hdk _).mono ?_; rintro e w' ⟨rfl, rfl⟩))
                  go_ret
                  exact ⟨retB hg.out.symm, rfl⟩
          · have hT : Hid (R = true) := by
              show _ = _
              rw [← hR.out]
              exact decide_eq_true ⟨by omega, by omega, hc, fun j hj => hH.out j (by omega)⟩
            clear hR hH hlet hdig hc hb0
            go_wp2
            go_ret
            exact ⟨retB hT.out.symm, rfl⟩
end Go.Proofs.Ytnmjhbnadfjapaa
/-
  WHAT IS WRONG OF A GRAPH FIRST. Mathematics alone.
-/
namespace Go.Proofs.Ytnmjhbnadfjapaa
open Go.ChangeShapes Go.WideShapes Go.ChangeAt Go.RowKit

def nameB (s : ByteArray) : Bool := decide (nameS s)
def badP (p : Pp) : Bool := !nameB p.s || (!goodV p.k p.n p.t || decide (p.k = 0))
def sameP (ps : List Pp) (i j : Nat) : Bool := (ps.getD i Pp.none).s.toList == (ps.getD j Pp.none).s.toList
def dupTo (ps : List Pp) (m : Nat) : Bool := (List.range m).any fun i => (List.range i).any fun j => sameP ps i j
def nodeE (x : Nd) : Int := if nameB x.l then (if x.ps.any badP then 2 else if 8 < x.ps.length then 5 else if dupTo x.ps x.ps.length then 6 else 0) else 2
def edgeE (n : Nat) (x : Eg) : Int := if nameB x.l then (if x.f < 0 ∨ (n : Int) ≤ x.f ∨ x.t < 0 ∨ (n : Int) ≤ x.t ∨ x.w < 0 ∨ 1000000 < x.w then 1 else 0) else 2
/-- The first that is wrong, and how. -/
def firstE {α : Type} (f : α → Int) : List α → Nat → Option (Nat × Int)
  | [], _ => none
  | x :: xs, k => if f x = 0 then firstE f xs (k + 1) else some (k, f x)
theorem firstE_at {α : Type} {f : α → Int} (d : α) : ∀ {xs : List α} (s k : Nat), k < xs.length → (∀ j, j < k → f (xs.getD j d) = 0) → f (xs.getD k d) ≠ 0 → firstE f xs s = some (s + k, f (xs.getD k d))
  | x :: xs, s, 0, _, _, h => by
    have h' : ¬ f x = 0 := h
    simp [firstE, h']
  | x :: xs, s, k + 1, hk, ha, h => by
    have h0 : f x = 0 := ha 0 (by omega)
    have ih := firstE_at d (xs := xs) (s + 1) k (by simpa using hk) (fun j hj => by simpa using ha (j + 1) (by omega)) (by simpa using h)
    simp only [firstE, h0, if_true]
    rw [ih]
    simp; omega
theorem firstE_none {α : Type} {f : α → Int} (d : α) : ∀ {xs : List α} (s : Nat), (∀ j, j < xs.length → f (xs.getD j d) = 0) → firstE f xs s = none
  | [], _, _ => rfl
  | x :: xs, s, ha => by
    have h0 : f x = 0 := ha 0 (by simp)
    simp only [firstE, h0, if_true]
    exact firstE_none d (xs := xs) (s + 1) fun j hj => by simpa using ha (j + 1) (by simpa using hj)
def checkG (g : Gr) : Int × Int := match firstE nodeE g.ns 0 with
  | some (i, c) => ((i : Int) + 1, c)
  | none => match firstE (edgeE g.ns.length) g.es 0 with
    | some (i, c) => ((g.ns.length : Int) + i + 1, c)
    | none => (0, 0)
theorem checkG_node {g : Gr} (k : Nat) (hk : k < g.ns.length) (ha : ∀ j, j < k → nodeE (g.ns.getD j Nd.none) = 0) (h : nodeE (g.ns.getD k Nd.none) ≠ 0) : checkG g = ((k : Int) + 1, nodeE (g.ns.getD k Nd.none)) := by
  unfold checkG
  rw [firstE_at Nd.none 0 k hk ha h]
  simp
theorem checkG_edge {g : Gr} (hn : ∀ j, j < g.ns.length → nodeE (g.ns.getD j Nd.none) = 0) (k : Nat) (hk : k < g.es.length) (ha : ∀ j, j < k → edgeE g.ns.length (g.es.getD j Eg.none) = 0) (h : edgeE g.ns.length (g.es.getD k Eg.none) ≠ 0) : checkG g = ((g.ns.length : Int) + (k : Int) + 1, edgeE g.ns.length (g.es.getD k Eg.none)) := by
  unfold checkG
  rw [firstE_none Nd.none 0 hn, firstE_at Eg.none 0 k hk ha h]
  simp
theorem checkG_ok {g : Gr} (hn : ∀ j, j < g.ns.length → nodeE (g.ns.getD j Nd.none) = 0) (ha : ∀ j, j < g.es.length → edgeE g.ns.length (g.es.getD j Eg.none) = 0) : checkG g = (0, 0) := by
  unfold checkG
  rw [firstE_none Nd.none 0 hn, firstE_none Eg.none 0 ha]
theorem any_bad {ps : List Pp} {k : Nat} (hk : k < ps.length) (h : badP (ps.getD k Pp.none) = true) : ps.any badP = true := by
  rw [List.any_eq_true]
  have e : ps.getD k Pp.none = ps[k] := by simp [List.getD, hk]
  exact ⟨ps[k], List.getElem_mem _, by rw [← e]; exact h⟩
theorem none_bad {ps : List Pp} (h : ∀ j, j < ps.length → badP (ps.getD j Pp.none) = false) : ps.any badP = false := by
  rw [List.any_eq_false]
  intro x hx
  obtain ⟨j, hj, rfl⟩ := List.getElem_of_mem hx
  have := h j hj
  rw [show ps.getD j Pp.none = ps[j] by simp [List.getD, hj]] at this
  rw [this]; simp
theorem dup_at {ps : List Pp} {m i j : Nat} (hi : i < m) (hj : j < i) (h : sameP ps i j = true) : dupTo ps m = true := by
  unfold dupTo
  rw [List.any_eq_true]
  refine ⟨i, List.mem_range.2 hi, ?_⟩
  rw [List.any_eq_true]
  exact ⟨j, List.mem_range.2 hj, h⟩
theorem dup_none {ps : List Pp} {m : Nat} (h : ∀ i, i < m → ∀ j, j < i → sameP ps i j = false) : dupTo ps m = false := by
  unfold dupTo
  rw [List.any_eq_false]
  intro i hi
  rw [Bool.not_eq_true, List.any_eq_false]
  intro j hj
  rw [h i (List.mem_range.1 hi) j (List.mem_range.1 hj)]; simp
theorem dup_succ (ps : List Pp) (m : Nat) : dupTo ps (m + 1) = (dupTo ps m || (List.range m).any fun j => sameP ps m j) := by
  unfold dupTo
  rw [List.range_succ, List.any_append]
  simp
theorem any_range_succ (f : Nat → Bool) (m : Nat) : ((List.range (m + 1)).any f) = ((List.range m).any f || f m) := by
  rw [List.range_succ, List.any_append]
  simp
end Go.Proofs.Ytnmjhbnadfjapaa
/-
  A NODE THAT IS CHECKED: the program's, by contract.
-/
namespace Go.Proofs.Ytnmjhbnadfjapaa
open Go.ChangeShapes Go.WideShapes Go.ChangeAt Go.RowKit

/-- Texts that are not long. -/
def Pp.sm (p : Pp) : Prop := p.s.size ≤ 1000 ∧ p.t.size ≤ 1000
def Nd.sm (x : Nd) : Prop := x.l.size ≤ 1000 ∧ x.ps.length ≤ 1000 ∧ ∀ p ∈ x.ps, p.sm
theorem nodeE_bad {l : ByteArray} {ps : List Pp} (h : nameB l = true) (hb : ps.any badP = true) : nodeE ⟨l, ps⟩ = 2 := by simp [nodeE, h, hb]
theorem nodeE_name {l : ByteArray} {ps : List Pp} (h : nameB l = false) : nodeE ⟨l, ps⟩ = 2 := by simp [nodeE, h]
theorem nodeE_long {l : ByteArray} {ps : List Pp} (h : nameB l = true) (hb : ps.any badP = false) (hl : 8 < ps.length) : nodeE ⟨l, ps⟩ = 5 := by simp [nodeE, h, hb, hl]
theorem nodeE_dup {l : ByteArray} {ps : List Pp} (h : nameB l = true) (hb : ps.any badP = false) (hl : ¬ 8 < ps.length) (hd : dupTo ps ps.length = true) : nodeE ⟨l, ps⟩ = 6 := by simp [nodeE, h, hb, hl, hd]
theorem nodeE_ok {l : ByteArray} {ps : List Pp} (h : nameB l = true) (hb : ps.any badP = false) (hl : ¬ 8 < ps.length) (hd : dupTo ps ps.length = false) : nodeE ⟨l, ps⟩ = 0 := by simp [nodeE, h, hb, hl, hd]
set_option maxHeartbeats 6400000 in
set_option maxRecDepth 100000 in
theorem cnode_c (l : ByteArray) (ps : List Pp) (pa : Option Addr) (pn pc : Nat) (w : World) (hp : SlR propR w (.slice pa pn pc) ps) (hs : Nd.sm ⟨l, ps⟩) :
    Calls Try.prog 64 #[.agg #[.string l, .slice pa pn pc]] w fun e w' => e = .returned (.int .i64 (nodeE ⟨l, ps⟩)) ∧ Below w.heap.size w w' := by
  obtain ⟨pa', pc', heq, hcap, -, -, hrow⟩ := hp
  simp only [Value.slice.injEq] at heq
  obtain ⟨rfl, rfl, rfl⟩ := heq
  obtain ⟨hs1, hs2, hs3⟩ := hs
  simp only at hs1 hs2 hs3
  replace hs3 := hidden hs3
  have hnm := fun x => name_c l x hs1
  have hX := hidden (heap_alloc_new w (.cells #[.string l, .slice pa ps.length pc] 44))
  have hB0 : Hid (Below w.heap.size w (w.alloc (.cells #[.string l, .slice pa ps.length pc] 44))) := (Below.refl _ _).alloc (Nat.le_refl _) _
  obtain ⟨⟨b0, b1⟩, -⟩ := box2f hX.out
  replace hrow := hidden hrow
  cases hl : nameB l with
  | false =>
    have hE := hidden (nodeE_name (ps := ps) hl)
    have hl2 : decide (nameS l) = false := hl
    rw [hl2] at hnm
    replace hl := hidden hl
    clear hl2
    go_enter Try.func64, Try.ntmps64
    go_wp2_with fail
    refine (hnm _).mono ?_
    rintro e z ⟨rfl, rfl⟩
    clear hnm
    go_wp2
    go_ret
    exact ⟨by rw [hE.out]; first | done | rfl, hB0.out⟩
  | true =>
    have hl2 : decide (nameS l) = true := hl
    rw [hl2] at hnm
    replace hl := hidden hl
    clear hl2
    go_enter Try.func64, Try.ntmps64
    go_wp2_with fail
    refine (hnm _).mono ?_
    rintro e z ⟨rfl, rfl⟩
    clear hnm
    go_wp2_with fail
    go_loopw [16] (fun i x => ∃ j : Nat, j ≤ ps.length ∧ i = .int .i64 j ∧ Hid (∀ j', j' < j → badP (ps.getD j' Pp.none) = false) ∧ Hid (Below w.heap.size w x) ∧ Hid (x.heap[w.heap.size]? = some (.cells #[.string l, .slice pa ps.length pc] 44))) (fun i _ => ps.length - (intOf i).toNat)
    case atStart => exact ⟨0, Nat.zero_le _, rfl, fun j' h => by omega, hB0, hX⟩
    case round =>
      clear hX hB0 b0 b1
      obtain ⟨j, hj, rfl, hb, hB, hX⟩ := hrel
      obtain ⟨⟨b0, b1⟩, -⟩ := box2f hX.out
      by_cases hlt : j < ps.length
      · obtain ⟨b5, o5, rfl, hb5, e0, e1, e2, e3⟩ := prop_at hrow.out hlt
        have hany := hidden fun h => nodeE_bad (ps := ps) hl.out (any_bad hlt h)
        have hok : Hid (badP (ps.getD j Pp.none) = false → ∀ j', j' < j + 1 → badP (ps.getD j' Pp.none) = false) := fun h j' hj' => by
          rcases Nat.lt_or_ge j' j with h2 | h2
          · exact hb.out j' h2
          · obtain rfl : j' = j := by omega
            exact h
        have hsm : Hid ((ps.getD j Pp.none).sm) := by
          have e : ps.getD j Pp.none = ps[j] := by simp [List.getD, hlt]
          show Pp.sm _
          rw [e]; exact hs3.out _ (List.getElem_mem _)
        generalize ps.getD j Pp.none = q at *
        obtain ⟨qs, qk, qn, qt⟩ := q
        simp only at e0 e1 e2 e3
        have f0 := (hB.out.cell (p := ⟨b5, o5 + j * 4, none⟩) (by exact hb5)).trans e0
        have f1 := (hB.out.cell (p := ⟨b5, o5 + j * 4 + 1, none⟩) (by exact hb5)).trans e1
        have f2 := (hB.out.cell (p := ⟨b5, o5 + j * 4 + 2, none⟩) (by exact hb5)).trans e2
        have f3 := (hB.out.cell (p := ⟨b5, o5 + j * 4 + 3, none⟩) (by exact hb5)).trans e3
        have hi1 : (j : Int) < (ps.length : Int) := by omega
        have hPB := hidden (heap_alloc_new wr (.cells #[.string qs, .int .i64 qk, .int .i64 qn, .string qt] 83))
        have hXA := hidden ((heap_alloc_old wr (.cells #[.string qs, .int .i64 qk, .int .i64 qn, .string qt] 83) (Array.getElem?_eq_some_iff.1 hX.out).1).trans hX.out)
        have hBA : Hid (Below w.heap.size w (wr.alloc (.cells #[.string qs, .int .i64 qk, .int .i64 qn, .string qt] 83))) := hB.out.alloc hB.out.size _
        obtain ⟨⟨p0, p1, p2, p3⟩, -⟩ := box4f hPB.out
        have hnm := fun x => name_c qs x hsm.out.1
        have hgd := fun x => vgood_c qk qn qt x hsm.out.2
        clear e0 e1 e2 e3 hb hX hB b0 b1
        cases hq : decide (nameS qs) with
        | false =>
          have hE := hidden (hany.out (by show (!nameB qs || _) = true; rw [show nameB qs = false from hq]; rfl))
          rw [hq] at hnm
          replace hq := hidden hq
          clear hany hok hgd
          go_wp2_with fail
          refine (hnm _).mono ?_
          rintro e z ⟨rfl, rfl⟩
          clear hnm
          go_wp2
          go_ret
          exact ⟨by rw [hE.out]; first | done | rfl, hBA.out⟩
        | true =>
          rw [hq] at hnm
          cases hg : goodV qk qn qt with
          | false =>
            have hE := hidden (hany.out (by show (!nameB qs || (!goodV qk qn qt || _)) = true; rw [hg]; simp))
            rw [hg] at hgd
            replace hq := hidden hq
            replace hg := hidden hg
            clear hany hok
            go_wp2_with fail
            refine (hnm _).mono ?_
            rintro e z ⟨rfl, rfl⟩
            clear hnm
            go_wp2_with fail
            refine (hgd _).mono ?_
            rintro e w5 ⟨rfl, hB5⟩
            have hBL : Hid (Below w.heap.size w w5) := hBA.out.trans (hB5.mono hBA.out.size)
            clear hgd hB5 p0 p1 p2 p3
            go_wp2
            go_ret
            exact ⟨by rw [hE.out]; first | done | rfl, hBL.out⟩
          | true =>
            rw [hg] at hgd
            by_cases hk0 : qk = 0
            · have hE := hidden (hany.out (by show (!nameB qs || (!goodV qk qn qt || decide (qk = 0))) = true; rw [decide_eq_true hk0]; simp))
              have hk2 : (qk == 0) = true := by simp [hk0]
              replace hk0 := hidden hk0
              replace hq := hidden hq
              replace hg := hidden hg
              clear hany hok
              go_wp2_with fail
              refine (hnm _).mono ?_
              rintro e z ⟨rfl, rfl⟩
              clear hnm
              go_wp2_with fail
              refine (hgd _).mono ?_
              rintro e w5 ⟨rfl, hB5⟩
              have hBL : Hid (Below w.heap.size w w5) := hBA.out.trans (hB5.mono hBA.out.size)
              have hP5 := hidden (box_below hPB.out hB5)
              clear hgd hB5 p0 p1 p2 p3
              obtain ⟨⟨p0, p1, p2, p3⟩, -⟩ := box4f hP5.out
              go_wp2
              go_ret
              exact ⟨by rw [hE.out]; first | done | rfl, hBL.out⟩
            · have hok2 := hidden (hok.out (by show (!nameB qs || (!goodV qk qn qt || decide (qk = 0))) = false; rw [show nameB qs = true from hq, hg, decide_eq_false hk0]; rfl))
              have hk2 : (qk == 0) = false := by simp [hk0]
              replace hk0 := hidden hk0
              replace hq := hidden hq
              replace hg := hidden hg
              clear hany hok
              go_wp2_with fail
              refine (hnm _).mono ?_
              rintro e z ⟨rfl, rfl⟩
              clear hnm
              go_wp2_with fail
              refine (hgd _).mono ?_
              rintro e w5 ⟨rfl, hB5⟩
              have hBL : Hid (Below w.heap.size w w5) := hBA.out.trans (hB5.mono hBA.out.size)
              have hP5 := hidden (box_below hPB.out hB5)
              have hX5 := hidden (box_below hXA.out hB5)
              clear hgd hB5 p0 p1 p2 p3
              obtain ⟨⟨p0, p1, p2, p3⟩, -⟩ := box4f hP5.out
              go_wp2
              go_roundw
              case rel => exact ⟨j + 1, by omega, by go_num, hok2, hBL, hX5⟩
              case measure => simp [intOf]; omega
      · obtain rfl : j = ps.length := by omega
        have hnb := hidden (none_bad hb.out)
        clear hb hlt
        by_cases h8 : 8 < ps.length
        · have hE := hidden (nodeE_long hl.out hnb.out h8)
          have h8' : (8 : Int) < (ps.length : Int) := by omega
          go_wp2
          go_ret
          exact ⟨by rw [hE.out]; first | done | rfl, hB.out⟩
        · have h8' : ¬ (8 : Int) < (ps.length : Int) := by omega
          go_wp2_with fail
          clear b0 b1
          go_loopw [44] (fun i x => ∃ j : Nat, j ≤ ps.length ∧ i = .int .i64 j ∧ Hid (∀ i', i' < j → ∀ j', j' < i' → sameP ps i' j' = false) ∧ Hid (Below w.heap.size w x) ∧ Hid (x.heap[w.heap.size]? = some (.cells #[.string l, .slice pa ps.length pc] 44))) (fun i _ => ps.length - (intOf i).toNat)
          case atStart => exact ⟨0, Nat.zero_le _, rfl, fun j' h => by omega, hB, hX⟩
          case round =>
            clear hX hB
            obtain ⟨j, hj, rfl, hd, hB, hX⟩ := hrel
            by_cases hlt : j < ps.length
            · obtain ⟨b5, o5, rfl, hb5, e0, e1, e2, e3⟩ := prop_at hrow.out hlt
              have hq0 : Hid (∀ m, sameP ps j m = ((ps.getD j Pp.none).s.toList == (ps.getD m Pp.none).s.toList)) := fun m => rfl
              generalize ps.getD j Pp.none = q at *
              obtain ⟨qs, qk, qn, qt⟩ := q
              simp only at e0 e1 e2 e3
              have f0 := (hB.out.cell (p := ⟨b5, o5 + j * 4, none⟩) (by exact hb5)).trans e0
              have f1 := (hB.out.cell (p := ⟨b5, o5 + j * 4 + 1, none⟩) (by exact hb5)).trans e1
              have f2 := (hB.out.cell (p := ⟨b5, o5 + j * 4 + 2, none⟩) (by exact hb5)).trans e2
              have f3 := (hB.out.cell (p := ⟨b5, o5 + j * 4 + 3, none⟩) (by exact hb5)).trans e3
              have hi1 : (j : Int) < (ps.length : Int) := by omega
              have hi2 : (j : Int) ≤ (pc : Int) := by omega
              have hi3 : ¬ pc = 0 := by omega
              have hPB := hidden (heap_alloc_new wr (.cells #[.string qs, .int .i64 qk, .int .i64 qn, .string qt] 83))
              have hXA := hidden ((heap_alloc_old wr (.cells #[.string qs, .int .i64 qk, .int .i64 qn, .string qt] 83) (Array.getElem?_eq_some_iff.1 hX.out).1).trans hX.out)
              have hBA : Hid (Below w.heap.size w (wr.alloc (.cells #[.string qs, .int .i64 qk, .int .i64 qn, .string qt] 83))) := hB.out.alloc hB.out.size _
              obtain ⟨⟨b0, b1⟩, -⟩ := box2f hXA.out
              clear e0 e1 e2 e3 hX hB
              go_wp2_with fail
              clear b0 b1 f0 f1 f2 f3
              go_loopw [54] (fun i x => ∃ m : Nat, m ≤ j ∧ i = .int .i64 m ∧ Hid (∀ m', m' < m → sameP ps j m' = false) ∧ Hid (Below w.heap.size w x) ∧ Hid (x.heap[w.heap.size]? = some (.cells #[.string l, .slice (some ⟨b5, o5, none⟩) ps.length pc] 44)) ∧ Hid (x.heap[wr.heap.size]? = some (.cells #[.string qs, .int .i64 qk, .int .i64 qn, .string qt] 83))) (fun i _ => j - (intOf i).toNat)
              case atStart => exact ⟨0, Nat.zero_le _, rfl, fun j' h => by omega, hBA, hXA, hPB⟩
              case round =>
                clear hPB hXA hBA
                obtain ⟨m, hm, rfl, hsm, hB, hX, hP⟩ := hrel
                by_cases hlt2 : m < j
                · obtain ⟨b6, o6, hbe, hb6, e0, e1, e2, e3⟩ := prop_at hrow.out (show m < ps.length by omega)
                  simp only [Option.some.injEq, Addr.mk.injEq] at hbe
                  obtain ⟨rfl, rfl, -⟩ := hbe
                  have hsE := hidden (hq0.out m)
                  have hdup := hidden fun h => nodeE_dup (ps := ps) hl.out hnb.out h8 (dup_at hlt hlt2 h)
                  have hnx : Hid (sameP ps j m = false → ∀ m', m' < m + 1 → sameP ps j m' = false) := fun h m' hm' => by
                    rcases Nat.lt_or_ge m' m with h2 | h2
                    · exact hsm.out m' h2
                    · obtain rfl : m' = m := by omega
                      exact h
                  generalize ps.getD m Pp.none = o at *
                  obtain ⟨os, ok, on, ot⟩ := o
                  simp only at e0 e1 e2 e3
                  have f0 := (hB.out.cell (p := ⟨b5, o5 + m * 4, none⟩) (by exact hb5)).trans e0
                  have f1 := (hB.out.cell (p := ⟨b5, o5 + m * 4 + 1, none⟩) (by exact hb5)).trans e1
                  have f2 := (hB.out.cell (p := ⟨b5, o5 + m * 4 + 2, none⟩) (by exact hb5)).trans e2
                  have f3 := (hB.out.cell (p := ⟨b5, o5 + m * 4 + 3, none⟩) (by exact hb5)).trans e3
                  have hi4 : (m : Int) < (j : Int) := by omega
                  have hOB := hidden (heap_alloc_new wr (.cells #[.string os, .int .i64 ok, .int .i64 on, .string ot] 83))
                  have hXA := hidden ((heap_alloc_old wr (.cells #[.string os, .int .i64 ok, .int .i64 on, .string ot] 83) (Array.getElem?_eq_some_iff.1 hX.out).1).trans hX.out)
                  have hPA := hidden ((heap_alloc_old wr (.cells #[.string os, .int .i64 ok, .int .i64 on, .string ot] 83) (Array.getElem?_eq_some_iff.1 hP.out).1).trans hP.out)
                  have hBA : Hid (Below w.heap.size w (wr.alloc (.cells #[.string os, .int .i64 ok, .int .i64 on, .string ot] 83))) := hB.out.alloc hB.out.size _
                  obtain ⟨⟨p0, p1, p2, p3⟩, -⟩ := box4f hPA.out
                  obtain ⟨⟨r0, r1, r2, r3⟩, -⟩ := box4f hOB.out
                  clear e0 e1 e2 e3 hsm hX hB hP
                  cases hsv : sameP ps j m with
                  | true =>
                    have g1 : (qs.toList == os.toList) = true := hsE.out.symm.trans hsv
                    have hE := hidden (hdup.out hsv)
                    replace hsv := hidden hsv
                    clear hdup hnx hsE
                    go_wp2
                    go_ret
                    exact ⟨by rw [hE.out]; first | done | rfl, hBA.out⟩
                  | false =>
                    have g1 : (qs.toList == os.toList) = false := hsE.out.symm.trans hsv
                    have hnx2 := hidden (hnx.out hsv)
                    replace hsv := hidden hsv
                    clear hdup hnx hsE
                    go_wp2
                    go_roundw
                    case rel => exact ⟨m + 1, by omega, by go_num, hnx2, hBA, hXA, hPA⟩
                    case measure => simp [intOf]; omega
                · obtain rfl : m = j := by omega
                  have hd2 : Hid (∀ i', i' < m + 1 → ∀ j', j' < i' → sameP ps i' j' = false) := fun i' hi' => by
                    rcases Nat.lt_or_ge i' m with h2 | h2
                    · exact hd.out i' h2
                    · obtain rfl : i' = m := by omega
                      exact hsm.out
                  have hi4 : ¬ (m : Int) < (m : Int) := by omega
                  clear hsm hd hP
                  go_wp2
                  go_roundw
                  case rel => exact ⟨m + 1, by omega, by go_num, hd2, hB, hX⟩
                  case measure => simp [intOf]; omega
            · obtain rfl : j = ps.length := by omega
              have hE := hidden (nodeE_ok hl.out hnb.out h8 (dup_none hd.out))
              have hi1 : ¬ (ps.length : Int) < (ps.length : Int) := by omega
              clear hd
              go_wp2
              go_ret
              exact ⟨by rw [hE.out]; first | done | rfl, hB.out⟩
end Go.Proofs.Ytnmjhbnadfjapaa
