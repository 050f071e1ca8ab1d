/-
  GOOD VALUES: the program's and the reference's, by contract.
-/
import Derived.Test.YtlpglldfchfaaaaRows1
namespace Go.Proofs.Ytlpglldfchfaaaa
open Go.ChangeShapes Go.WideShapes Go.ChangeAt Go.RowKit

/-- The k-th byte of a text. -/
def byteAt (s : ByteArray) (k : Nat) : Int := ((s.data.toList.getD k 0).toNat : Int)
theorem byteAt_eq {s : ByteArray} {k : Nat} (h : k < s.size) : ((s[k]).toNat : Int) = byteAt s k := by
  unfold byteAt
  have hl : k < s.data.toList.length := by simpa using h
  rw [List.getD_eq_getElem?_getD, List.getElem?_eq_getElem hl]; rfl
def plainB (b : Int) : Bool := decide (32 ≤ b) && decide (b ≤ 126)
def plainS (s : ByteArray) : Prop := ∀ k, k < s.size → plainB (byteAt s k) = true
instance (s : ByteArray) : Decidable (plainS s) := by unfold plainS; infer_instance
theorem plain_c (b : Int) (w : World) : Calls Try.prog 18 #[.int .u8 b] w fun e w' => e = .returned (.bool (plainB b)) ∧ w' = w := by
  by_cases h1 : 32 ≤ b <;> by_cases h2 : b ≤ 126 <;> first | (exfalso; omega) | skip
  all_goals
    go_enter Try.func18, Try.ntmps18
    go_wp2
    go_ret
    exact ⟨ret_bool (by unfold plainB; simp [h1, h2]), rfl⟩
set_option maxHeartbeats 1600000 in
theorem goodtext_c (s : ByteArray) (w : World) (hs : s.size ≤ 1000) : Calls Try.prog 14 #[.string s] w fun e w' => e = .returned (.bool (decide (s.size ≤ 100 ∧ plainS s))) ∧ w' = w := by
  have hp := fun b w => plain_c b w
  by_cases h1 : 100 < s.size
  · have e : Hid (decide (s.size ≤ 100 ∧ plainS s) = false) := decide_eq_false fun h => by omega
    rw [e.out]; clear e
    go_enter Try.func14, Try.ntmps14
    go_wp2
    go_ret
    exact ⟨rfl, rfl⟩
  obtain ⟨R, hR⟩ : ∃ R, Hid (decide (s.size ≤ 100 ∧ plainS s) = R) := ⟨_, (rfl : _ = _)⟩
  rw [hR.out]
  go_enter Try.func14, Try.ntmps14
  go_wp2_with fail
  go_loop [9] (fun i => ∃ k : Nat, i = .int .i64 k ∧ k ≤ s.size ∧ Hid (∀ j, j < k → plainB (byteAt s j) = true)) (fun i => s.size - (intOf i).toNat)
  case atStart => exact ⟨0, rfl, Nat.zero_le _, fun j hj => by omega⟩
  case round =>
    obtain ⟨k, rfl, hk, hH⟩ := hrel
    by_cases hlt : k < s.size
    · have hbk := byteAt_eq hlt
      have hlk := hp (s[k].toNat : Int)
      rw [hbk] at hlk
      cases hA : plainB (byteAt s k) with
      | true =>
        have hg : Hid (∀ j, j < k + 1 → plainB (byteAt s j) = true) := fun j hj => by
          rcases Nat.lt_or_ge j k with h' | h'
          · exact hH.out j h'
          · obtain rfl : j = k := by omega
            exact hA
        rw [hA] at hlk
        clear hR hH hp hA
        generalize byteAt s k = b at *
        go_wp2_with (go_at_call 18; refine (hlk _).mono ?_; rintro e w' ⟨rfl, rfl⟩)
        go_round
        case rel => exact ⟨k + 1, by go_num, by omega, hg⟩
        case measure => simp [intOf]; omega
      | false =>
        have e : Hid (R = false) := by
          show _ = _
          rw [← hR.out]
          exact decide_eq_false fun hn => by have := hn.2 k hlt; rw [hA] at this; cases this
        rw [hA] at hlk
        clear hR hH hp hA
        generalize byteAt s k = b at *
        go_wp2_with (go_at_call 18; refine (hlk _).mono ?_; rintro e w' ⟨rfl, rfl⟩)
        go_ret
        exact ⟨by rw [e.out]; rfl, rfl⟩
    · have e : Hid (R = true) := by
        show _ = _
        rw [← hR.out]
        exact decide_eq_true ⟨by omega, fun j hj => hH.out j (by omega)⟩
      clear hR hH hp
      obtain rfl : k = s.size := by omega
      go_wp2
      go_ret
      exact ⟨by rw [e.out]; rfl, rfl⟩
end Go.Proofs.Ytlpglldfchfaaaa
