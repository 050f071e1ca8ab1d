/-
  GOOD VALUES: the program's and the reference's, by contract.
-/
import Derived.Test.YtnmjhbnadfjapaaRec
namespace Go.Proofs.Ytnmjhbnadfjapaa
open Go.ChangeShapes Go.WideShapes Go.ChangeAt Go.RowKit

/-- The k-th byte of a text. -/
def byteAt (s : ByteArray) (k : Nat) : Int := ((s.data.toList.getD k 0).toNat : Int)
theorem byteAt_eq {s : ByteArray} {k : Nat} (h : k < s.size) : ((s[k]).toNat : Int) = byteAt s k := by
  unfold byteAt
  have hl : k < s.data.toList.length := by simpa using h
  rw [List.getD_eq_getElem?_getD, List.getElem?_eq_getElem hl]; rfl
def plainB (b : Int) : Bool := decide (32 ≤ b) && decide (b ≤ 126)
def plainS (s : ByteArray) : Prop := ∀ k, k < s.size → plainB (byteAt s k) = true
instance (s : ByteArray) : Decidable (plainS s) := by unfold plainS; infer_instance
theorem plain_c (b : Int) (w : World) : Calls Try.prog 97 #[.int .u8 b] w fun e w' => e = .returned (.bool (plainB b)) ∧ w' = w := by
  by_cases h1 : 32 ≤ b <;> by_cases h2 : b ≤ 126 <;> first | (exfalso; omega) | skip
  all_goals
    go_enter Try.func97, Try.ntmps97
    go_wp2
    go_ret
    exact ⟨ret_bool (by unfold plainB; simp [h1, h2]), rfl⟩
set_option maxHeartbeats 1600000 in
theorem goodtext_c (s : ByteArray) (w : World) (hs : s.size ≤ 1000) : Calls Try.prog 91 #[.string s] w fun e w' => e = .returned (.bool (decide (s.size ≤ 100 ∧ plainS s))) ∧ w' = w := by
  have hp := fun b w => plain_c b w
  by_cases h1 : 100 < s.size
  · have e : Hid (decide (s.size ≤ 100 ∧ plainS s) = false) := decide_eq_false fun h => by omega
    rw [e.out]; clear e
    go_enter Try.func91, Try.ntmps91
    go_wp2
    go_ret
    exact ⟨rfl, rfl⟩
  obtain ⟨R, hR⟩ : ∃ R, Hid (decide (s.size ≤ 100 ∧ plainS s) = R) := ⟨_, (rfl : _ = _)⟩
  rw [hR.out]
  go_enter Try.func91, Try.ntmps91
  go_wp2_with fail
  go_loop [9] (fun i => ∃ k : Nat, i = .int .i64 k ∧ k ≤ s.size ∧ Hid (∀ j, j < k → plainB (byteAt s j) = true)) (fun i => s.size - (intOf i).toNat)
  case atStart => exact ⟨0, rfl, Nat.zero_le _, fun j hj => by omega⟩
  case round =>
    obtain ⟨k, rfl, hk, hH⟩ := hrel
    by_cases hlt : k < s.size
    · have hbk := byteAt_eq hlt
      have hlk := hp (s[k].toNat : Int)
      rw [hbk] at hlk
      cases hA : plainB (byteAt s k) with
      | true =>
        have hg : Hid (∀ j, j < k + 1 → plainB (byteAt s j) = true) := fun j hj => by
          rcases Nat.lt_or_ge j k with h' | h'
          · exact hH.out j h'
          · obtain rfl : j = k := by omega
            exact hA
        rw [hA] at hlk
        clear hR hH hp hA
        generalize byteAt s k = b at *
        go_wp2_with (go_at_call 97; refine (hlk _).mono ?_; rintro e w' ⟨rfl, rfl⟩)
        go_round
        case rel => exact ⟨k + 1, by go_num, by omega, hg⟩
        case measure => simp [intOf]; omega
      | false =>
        have e : Hid (R = false) := by
          show _ = _
          rw [← hR.out]
          exact decide_eq_false fun hn => by have := hn.2 k hlt; rw [hA] at this; cases this
        rw [hA] at hlk
        clear hR hH hp hA
        generalize byteAt s k = b at *
        go_wp2_with (go_at_call 97; refine (hlk _).mono ?_; rintro e w' ⟨rfl, rfl⟩)
        go_ret
        exact ⟨by rw [e.out]; rfl, rfl⟩
    · have e : Hid (R = true) := by
        show _ = _
        rw [← hR.out]
        exact decide_eq_true ⟨by omega, fun j hj => hH.out j (by omega)⟩
      clear hR hH hp
      obtain rfl : k = s.size := by omega
      go_wp2
      go_ret
      exact ⟨by rw [e.out]; rfl, rfl⟩
end Go.Proofs.Ytnmjhbnadfjapaa
/-
  GOOD VALUES, whole: the program's and the reference's, by contract.
-/
namespace Go.Proofs.Ytnmjhbnadfjapaa
open Go.ChangeShapes Go.WideShapes Go.ChangeAt Go.RowKit

def emptyB (s : ByteArray) : Bool := s.toList == []
def goodV (k n : Int) (s : ByteArray) : Bool :=
  if k = 0 then n == 0 && emptyB s
  else if k = 1 then decide (-1000000000000 ≤ n) && decide (n ≤ 1000000000000) && emptyB s
  else if k = 2 then n == 0 && decide (s.size ≤ 100 ∧ plainS s)
  else false
set_option maxHeartbeats 1600000 in
theorem vgood_c (k n : Int) (s : ByteArray) (w : World) (hs : s.size ≤ 1000) : Calls Try.prog 76 #[.agg #[.int .i64 k, .int .i64 n, .string s]] w fun e w' => e = .returned (.bool (goodV k n s)) ∧ Below w.heap.size w w' := by
  have hg := fun w => goodtext_c s w hs
  obtain ⟨E, hE⟩ : ∃ E, (s.toList == ([] : List UInt8)) = E := ⟨_, rfl⟩
  have hE' : emptyB s = E := hE
  by_cases h0 : k = 0
  · subst h0
    by_cases hn : n = 0
    · subst hn
      rw [show goodV 0 0 s = E by simp [goodV, hE']]
      clear hE'
      go_enter Try.func76, Try.ntmps76
      go_wp2
      go_ret
      exact ⟨rfl, (Below.refl _ _).alloc (Nat.le_refl _) _⟩
    · rw [show goodV 0 n s = false by simp [goodV, hn]]
      have hn' : (n == 0) = false := by simpa using hn
      go_enter Try.func76, Try.ntmps76
      go_wp2
      go_ret
      exact ⟨rfl, (Below.refl _ _).alloc (Nat.le_refl _) _⟩
  have h0' : (k == 0) = false := by simpa using h0
  by_cases h1 : k = 1
  · subst h1
    by_cases ha : -1000000000000 ≤ n
    · by_cases hb : n ≤ 1000000000000
      · rw [show goodV 1 n s = E by simp [goodV, hE', ha, hb]]
        clear hE'
        go_enter Try.func76, Try.ntmps76
        go_wp2
        go_ret
        exact ⟨rfl, (Below.refl _ _).alloc (Nat.le_refl _) _⟩
      · rw [show goodV 1 n s = false by simp [goodV, hb]]
        go_enter Try.func76, Try.ntmps76
        go_wp2
        go_ret
        exact ⟨rfl, (Below.refl _ _).alloc (Nat.le_refl _) _⟩
    · rw [show goodV 1 n s = false by simp [goodV, ha]]
      go_enter Try.func76, Try.ntmps76
      go_wp2
      go_ret
      exact ⟨rfl, (Below.refl _ _).alloc (Nat.le_refl _) _⟩
  have h1' : (k == 1) = false := by simpa using h1
  by_cases h2 : k = 2
  · subst h2
    by_cases hn : n = 0
    · subst hn
      rw [show goodV 2 0 s = decide (s.size ≤ 100 ∧ plainS s) by simp [goodV]]
      clear hE hE'
      generalize decide (s.size ≤ 100 ∧ plainS s) = G at *
      go_enter Try.func76, Try.ntmps76
      go_wp2_with (go_at_call 91; refine (hg _).mono ?_; rintro e w' ⟨rfl, rfl⟩)
      go_ret
      exact ⟨rfl, (Below.refl _ _).alloc (Nat.le_refl _) _⟩
    · rw [show goodV 2 n s = false by simp [goodV, hn]]
      have hn' : (n == 0) = false := by simpa using hn
      go_enter Try.func76, Try.ntmps76
      go_wp2
      go_ret
      exact ⟨rfl, (Below.refl _ _).alloc (Nat.le_refl _) _⟩
  have h2' : (k == 2) = false := by simpa using h2
  rw [show goodV k n s = false by simp [goodV, h0, h1, h2]]
  clear h0 h1 h2
  go_enter Try.func76, Try.ntmps76
  go_wp2
  go_ret
  exact ⟨rfl, (Below.refl _ _).alloc (Nat.le_refl _) _⟩
end Go.Proofs.Ytnmjhbnadfjapaa
/-
  GOOD VALUES: the reference's, by contract.
-/
namespace Go.Proofs.Ytnmjhbnadfjapaa
open Go.ChangeShapes Go.WideShapes Go.ChangeAt Go.RowKit

theorem plainB_lo {b : Int} (h : b < 32) : plainB b = false := by unfold plainB; simp; omega
theorem plainB_hi {b : Int} (h : 126 < b) : plainB b = false := by unfold plainB; simp; omega
theorem plainB_mid {b : Int} (h : ¬ b < 32) (h2 : ¬ 126 < b) : plainB b = true := by unfold plainB; simp; omega
set_option maxHeartbeats 1600000 in
theorem rgood_c (k n : Int) (s : ByteArray) (w : World) (hs : s.size ≤ 1000) : Calls Try.prog 66 #[.agg #[.int .i64 k, .int .i64 n, .string s]] w fun e w' => e = .returned (.bool (goodV k n s)) ∧ Below w.heap.size w w' := by
  obtain ⟨E, hE⟩ : ∃ E, (s.toList == ([] : List UInt8)) = E := ⟨_, rfl⟩
  have hE' : emptyB s = E := hE
  have hB := (Below.refl w.heap.size w).alloc (Nat.le_refl _) (.cells #[.int .i64 k, .int .i64 n, .string s] 27)
  by_cases h0 : k = 0
  · subst h0
    by_cases hn : n = 0
    · subst hn
      rw [show goodV 0 0 s = E by simp [goodV, hE']]
      clear hE'
      go_enter Try.func66, Try.ntmps66
      go_wp2
      go_ret
      exact ⟨rfl, hB⟩
    · rw [show goodV 0 n s = false by simp [goodV, hn]]
      have hn' : (n == 0) = false := by simpa using hn
      go_enter Try.func66, Try.ntmps66
      go_wp2
      go_ret
      exact ⟨rfl, hB⟩
  have h0' : (k == 0) = false := by simpa using h0
  by_cases h1 : k = 1
  · subst h1
    cases E with
    | false =>
      rw [show goodV 1 n s = false by simp [goodV, hE']]
      clear hE'
      go_enter Try.func66, Try.ntmps66
      go_wp2
      go_ret
      exact ⟨rfl, hB⟩
    | true =>
      by_cases ha : -1000000000000 ≤ n
      · by_cases hb : n ≤ 1000000000000
        · rw [show goodV 1 n s = true by simp [goodV, hE', ha, hb]]
          clear hE'
          go_enter Try.func66, Try.ntmps66
          go_wp2
          go_ret
          exact ⟨rfl, hB⟩
        · rw [show goodV 1 n s = false by simp [goodV, hb]]
          clear hE'
          go_enter Try.func66, Try.ntmps66
          go_wp2
          go_ret
          exact ⟨rfl, hB⟩
      · rw [show goodV 1 n s = false by simp [goodV, ha]]
        clear hE'
        go_enter Try.func66, Try.ntmps66
        go_wp2
        go_ret
        exact ⟨rfl, hB⟩
  have h1' : (k == 1) = false := by simpa using h1
  clear hE hE'
  have hno : ¬ plainS s → Hid (goodV k n s = false) := fun h => by
    show _ = _
    simp [goodV, h0, h1, h]
  have hyes : plainS s → Hid (goodV k n s = (k == 2 && (n == 0 && decide (s.size < 101)))) := fun h => by
    show _ = _
    simp only [goodV, h0, h1, h, if_false, and_true]
    by_cases h2 : k = 2
    · subst h2; simp; congr 1; rw [Bool.eq_iff_iff]; simp; omega
    · simp [h2]
  generalize goodV k n s = R at *
  clear h0 h1
  go_enter Try.func66, Try.ntmps66
  go_wp2_with fail
  go_loop [3] (fun i => ∃ q : Nat, i = .int .i64 q ∧ q ≤ s.size ∧ Hid (∀ j, j < q → plainB (byteAt s j) = true)) (fun i => s.size - (intOf i).toNat)
  case atStart => exact ⟨0, rfl, Nat.zero_le _, fun j hj => by omega⟩
  case round =>
    obtain ⟨q, rfl, hq, hH⟩ := hrel
    by_cases hlt : q < s.size
    · have hbk := byteAt_eq hlt
      by_cases hlo : byteAt s q < 32
      · have e := hno fun h => by have := h q hlt; rw [plainB_lo hlo] at this; cases this
        clear hno hyes hH
        generalize byteAt s q = b at *
        go_wp2
        go_ret
        exact ⟨by rw [e.out]; rfl, hB⟩
      by_cases hhi : 126 < byteAt s q
      · have e := hno fun h => by have := h q hlt; rw [plainB_hi hhi] at this; cases this
        clear hno hyes hH
        generalize byteAt s q = b at *
        go_wp2
        go_ret
        exact ⟨by rw [e.out]; rfl, hB⟩
      have hg : Hid (∀ j, j < q + 1 → plainB (byteAt s j) = true) := fun j hj => by
        rcases Nat.lt_or_ge j q with h' | h'
        · exact hH.out j h'
        · obtain rfl : j = q := by omega
          exact plainB_mid hlo hhi
      clear hno hyes hH
      generalize byteAt s q = b at *
      go_wp2
      go_round
      case rel => exact ⟨q + 1, by go_num, by omega, hg⟩
      case measure => simp [intOf]; omega
    · have e := hyes fun j hj => hH.out j (by omega)
      clear hno hyes hH
      obtain rfl : q = s.size := by omega
      by_cases h2 : k = 2
      · subst h2
        by_cases hn : n = 0
        · subst hn
          go_wp2
          go_ret
          exact ⟨by rw [e.out]; simp <;> omega, hB⟩
        · have hn' : (n == 0) = false := by simpa using hn
          clear hn
          go_wp2
          go_ret
          exact ⟨by rw [e.out, hn']; rfl, hB⟩
      · have h2' : (k == 2) = false := by simpa using h2
        clear h2
        go_wp2
        go_ret
        exact ⟨by rw [e.out, h2']; rfl, hB⟩
end Go.Proofs.Ytnmjhbnadfjapaa
