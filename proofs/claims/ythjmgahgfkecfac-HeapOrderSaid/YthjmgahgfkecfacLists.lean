/-
  ROWS OF NUMBERS HELD AGAINST EACH OTHER: by contract.
-/
import Derived.Test.YthjmgahgfkecfacSl
import Derived.Laws.Cover1
namespace Go.Proofs.Ythjmgahgfkecfac
open Go.ChangeShapes Go.WideShapes Go.ChangeAt Go.RowKit

/-- Which of two rows stands first. -/
def lcmp : List Int → List Int → Int
  | [], [] => 0
  | [], _ :: _ => -1
  | _ :: _, [] => 1
  | a :: x, b :: y => if a < b then -1 else if b < a then 1 else lcmp x y
theorem lcmp_skip : ∀ (k : Nat) (xs ys : List Int), xs.take k = ys.take k → k ≤ xs.length → k ≤ ys.length → lcmp xs ys = lcmp (xs.drop k) (ys.drop k)
  | 0, _, _, _, _, _ => rfl
  | k + 1, [], _, _, h, _ => by simp at h
  | k + 1, _ :: _, [], _, _, h => by simp at h
  | k + 1, a :: x, b :: y, ht, h1, h2 => by
    simp only [List.take_succ_cons, List.cons.injEq] at ht
    obtain ⟨rfl, ht⟩ := ht
    simp only [List.length_cons, Nat.add_le_add_iff_right] at h1 h2
    simp only [lcmp, Int.lt_irrefl, if_false, List.drop_succ_cons]
    exact lcmp_skip k x y ht h1 h2
theorem drop_headL (xs : List Int) (k : Nat) (h : k < xs.length) : xs.drop k = xs.getD k 0 :: xs.drop (k + 1) := by
  rw [List.drop_eq_getElem_cons h]; simp [List.getD, h]
theorem lcmp_less {xs ys : List Int} (k : Nat) (ht : xs.take k = ys.take k) (h1 : k < xs.length) (h2 : k < ys.length) (h : xs.getD k 0 < ys.getD k 0) : lcmp xs ys = -1 := by
  rw [lcmp_skip k xs ys ht (by omega) (by omega), drop_headL xs k h1, drop_headL ys k h2]; simp only [lcmp, h, if_true]
theorem lcmp_more {xs ys : List Int} (k : Nat) (ht : xs.take k = ys.take k) (h1 : k < xs.length) (h2 : k < ys.length) (h : ys.getD k 0 < xs.getD k 0) : lcmp xs ys = 1 := by
  rw [lcmp_skip k xs ys ht (by omega) (by omega), drop_headL xs k h1, drop_headL ys k h2]; simp only [lcmp, h, if_true, show ¬ xs.getD k 0 < ys.getD k 0 by omega, if_false]
theorem lcmp_step {xs ys : List Int} (k : Nat) (ht : xs.take k = ys.take k) (h1 : k < xs.length) (h2 : k < ys.length) (h : xs.getD k 0 = ys.getD k 0) : xs.take (k + 1) = ys.take (k + 1) := by
  rw [List.take_add_one, List.take_add_one, ht, List.getElem?_eq_getElem h1, List.getElem?_eq_getElem h2]
  simp [List.getD, h1, h2] at h
  simp [h]
theorem lcmp_end {xs ys : List Int} (k : Nat) (ht : xs.take k = ys.take k) (h1 : k ≤ xs.length) (h2 : k ≤ ys.length) (h : ¬ (k < xs.length ∧ k < ys.length)) :
    lcmp xs ys = if xs.length < ys.length then -1 else if ys.length < xs.length then 1 else 0 := by
  rw [lcmp_skip k xs ys ht h1 h2]
  by_cases hx : k < xs.length
  · rw [drop_headL xs k hx, List.drop_of_length_le (show ys.length ≤ k by omega)]
    rw [if_neg (by omega), if_pos (by omega)]
    rfl
  · rw [List.drop_of_length_le (show xs.length ≤ k by omega)]
    by_cases hy : k < ys.length
    · rw [drop_headL ys k hy, if_pos (by omega)]
      rfl
    · rw [List.drop_of_length_le (show ys.length ≤ k by omega), if_neg (by omega), if_neg (by omega)]
      rfl
theorem hiddenL {p : Prop} (h : p) : Hid p := h
set_option maxHeartbeats 1600000 in
set_option maxRecDepth 1000000 in
theorem rlist_c (va vb : Value) (xs ys : List Int) (w : World) (hva : Holds w va (xs.map (Value.int .i64))) (hvb : Holds w vb (ys.map (Value.int .i64))) (hx : xs.length ≤ 17592186044416) (hy : ys.length ≤ 17592186044416) :
    Calls Try.prog 15 #[va, vb] w fun e w' => e = .returned (.int .i64 (lcmp xs ys)) ∧ Below w.heap.size w w' := by
  obtain ⟨a, cap, rfl, hra⟩ := hva
  obtain ⟨b, cap', rfl, hrb⟩ := hvb
  rw [List.length_map, List.length_map]
  go_enter Try.func15, Try.ntmps15
  go_wp2
  go_loopw [5] (fun i wr => ∃ k : Nat, k ≤ xs.length ∧ k ≤ ys.length ∧ i = .int .i64 k ∧ Hid (xs.take k = ys.take k) ∧ Below w.heap.size w wr)
    (fun i _ => xs.length - (intOf i).toNat)
  case atStart => exact ⟨0, Nat.zero_le _, Nat.zero_le _, rfl, rfl, Below.refl _ _⟩
  case round =>
    obtain ⟨k, hk, hk', rfl, ht, hnx⟩ := hrel
    by_cases hlt : k < xs.length ∧ k < ys.length
    · obtain ⟨hk1, hk2⟩ := hlt
      rcases hra with h0 | ⟨b1, o1, rfl, hb1, hc1⟩
      · simp only [List.map_eq_nil_iff] at h0; subst h0; simp at hk1
      rcases hrb with h0 | ⟨b2, o2, rfl, hb2, hc2⟩
      · simp only [List.map_eq_nil_iff] at h0; subst h0; simp at hk2
      have hx1 : wr.cell? ⟨b1, o1 + k, none⟩ = some (.int .i64 (xs.getD k 0)) := (hnx.cell (by exact hb1)).trans (hc1 k _ (by simp [hk1]))
      have hx2 : wr.cell? ⟨b2, o2 + k, none⟩ = some (.int .i64 (ys.getD k 0)) := (hnx.cell (by exact hb2)).trans (hc2 k _ (by simp [hk2]))
      have f1 := hiddenL fun h => lcmp_less k ht.out hk1 hk2 h
      have f2 := hiddenL fun h => lcmp_more k ht.out hk1 hk2 h
      have f3 := hiddenL fun h => lcmp_step k ht.out hk1 hk2 h
      clear hc1 hc2
      generalize xs.getD k 0 = x at *
      generalize ys.getD k 0 = y at *
      rcases Int.lt_trichotomy x y with h | h | h
      · have f := hiddenL (f1.out h)
        clear f1 f2 f3
        go_wp2
        go_region
        all_goals
          go_wp2
          go_ret
          exact ⟨by rw [f.out]; first | done | rfl, hnx.drew⟩
      · have f := hiddenL (f3.out h)
        subst h
        clear f1 f2 f3
        go_wp2
        go_region
        all_goals (try go_wp2)
        all_goals (try go_region)
        all_goals
          go_wp2
          go_roundw
          case rel => exact ⟨k + 1, by omega, by omega, by go_num, f.out, hnx.drew.drew⟩
          case measure => simp [intOf]; omega
      · have f := hiddenL (f2.out h)
        have hnl : ¬ x < y := by omega
        clear f1 f2 f3
        go_wp2
        go_region
        all_goals (try go_wp2)
        all_goals (try go_region)
        all_goals
          go_wp2
          go_ret
          exact ⟨by rw [f.out]; first | done | rfl, hnx.drew.drew⟩
    · have f := hiddenL (lcmp_end k ht.out hk hk' hlt)
      by_cases h1 : xs.length < ys.length
      · have f : Hid (lcmp xs ys = -1) := by show _ = _; rw [f.out, if_pos h1]
        have g1 : ¬ k < xs.length := by omega
        clear hlt
        go_wp2
        go_ret
        exact ⟨by rw [f.out]; first | done | rfl, hnx⟩
      · by_cases h2 : ys.length < xs.length
        · have f : Hid (lcmp xs ys = 1) := by show _ = _; rw [f.out, if_neg h1, if_pos h2]
          have g1 : k < xs.length := by omega
          have g2 : ¬ k < ys.length := by omega
          clear hlt
          go_wp2
          go_ret
          exact ⟨by rw [f.out]; first | done | rfl, hnx⟩
        · have f : Hid (lcmp xs ys = 0) := by show _ = _; rw [f.out, if_neg h1, if_neg h2]
          have g1 : ¬ k < xs.length := by omega
          clear hlt
          go_wp2
          go_ret
          exact ⟨by rw [f.out]; first | done | rfl, hnx⟩
end Go.Proofs.Ythjmgahgfkecfac
