/-
  HOW MANY OF A LIST THAT RISES ARE BELOW A NUMBER; AND WHETHER A LIST RISES: by contract.
-/
import Derived.Test.YtfjhiaafabmpbaeSl
import Derived.Test.YtfjhiaafabmpbaeRMath
import Derived.Test.YtfjhiaafabmpbaeFewU
namespace Go.Proofs.Ytfjhiaafabmpbae
open Go.ChangeShapes Go.WideShapes Go.ChangeAt Go.RowKit

theorem rises_le {l : List Int} (h : Rises l) {i j : Nat} (hij : i ≤ j) (hj : j < l.length) : l.getD i 0 ≤ l.getD j 0 := by
  rcases Nat.lt_or_ge i j with h' | h'
  · have := List.pairwise_iff_getElem.1 h i j (by omega) hj h'
    simp only [List.getD, List.getElem?_eq_getElem hj, List.getElem?_eq_getElem (show i < l.length by omega), Option.getD_some]
    omega
  · obtain rfl : i = j := by omega
    exact Int.le_refl _
theorem row_at {w : World} {a : Option Addr} {xs : List Int} (h : RowAt w a (xs.map (Value.int .u64))) {n : Nat} (hn : n < xs.length) :
    ∃ b off, a = some ⟨b, off, none⟩ ∧ b < w.heap.size ∧ w.cell? ⟨b, off + n, none⟩ = some (.int .u64 (xs.getD n 0)) := by
  rcases h with h0 | ⟨b, off, rfl, hb, hc⟩
  · simp only [List.map_eq_nil_iff] at h0; subst h0; simp at hn
  · exact ⟨b, off, rfl, hb, hc n _ (by simp [hn])⟩

set_option maxHeartbeats 1600000 in
set_option maxRecDepth 1000000 in
theorem lower_c (v : Value) (xs : List Int) (key : Int) (w : World) (hv : Holds w v (xs.map (Value.int .u64))) (hz : xs.length ≤ 1000) (hr : Rises xs) :
    Calls Try.prog 6 #[v, .int .u64 key] w fun e w' => ∃ n : Nat, e = .returned (.int .i64 n) ∧ IsLow xs key n ∧ w' = w := by
  obtain ⟨a, cap, rfl, hrow⟩ := hv
  rw [List.length_map]
  go_enter Try.func6, Try.ntmps6
  go_wp2
  go_loop [5, 6] (fun x y => ∃ lo hi : Nat, x = .int .i64 lo ∧ y = .int .i64 hi ∧ lo ≤ hi ∧ hi ≤ xs.length ∧ Hid (∀ j, j < lo → xs.getD j 0 < key) ∧ Hid (∀ j, hi ≤ j → j < xs.length → ¬ xs.getD j 0 < key))
    (fun x y => (intOf y).toNat - (intOf x).toNat)
  case atStart => exact ⟨0, xs.length, rfl, rfl, Nat.zero_le _, Nat.le_refl _, fun j hj => by omega, fun j h1 h2 => by omega⟩
  case round =>
    obtain ⟨lo, hi, rfl, rfl, hle, hhi, h1, h2⟩ := hrel
    by_cases hlt : lo < hi
    · obtain ⟨m, hm⟩ : ∃ m : Nat, m = lo + (hi - lo) / 2 := ⟨_, rfl⟩
      have hm1 : lo ≤ m := by omega
      have hm2 : m < hi := by omega
      have hmI : (lo : Int) + ((hi : Int) - lo) / 2 = (m : Int) := by omega
      have hmT : (lo : Int) + ((hi : Int) - lo).tdiv 2 = (m : Int) := by rw [Int.tdiv_eq_ediv_of_nonneg (by omega)]; exact hmI
      obtain ⟨b, off, rfl, hb, hcm⟩ := row_at hrow (n := m) (by omega)
      by_cases hk : xs.getD m 0 < key
      · have hn : Hid (∀ j, j < m + 1 → xs.getD j 0 < key) := fun j hj => by
          have := rises_le hr (i := j) (j := m) (by omega) (by omega)
          omega
        have hd : decide (xs.getD m 0 < key) = true := decide_eq_true hk
        clear hm h1
        generalize xs.getD m 0 = y at *
        go_wp2
        go_round
        case rel => exact ⟨m + 1, hi, by go_num, rfl, by omega, hhi, hn.out, h2.out⟩
        case measure => simp [intOf]; omega
      · have hn : Hid (∀ j, m ≤ j → j < xs.length → ¬ xs.getD j 0 < key) := fun j hj hj2 => by
          have := rises_le hr (i := m) (j := j) (by omega) (by omega)
          omega
        have hd : decide (xs.getD m 0 < key) = false := decide_eq_false hk
        clear hm h2
        generalize xs.getD m 0 = y at *
        go_wp2
        go_round
        case rel => exact ⟨lo, m, rfl, by go_num, by omega, by omega, h1.out, hn.out⟩
        case measure => simp [intOf]; omega
    · obtain rfl : lo = hi := by omega
      have hL : Hid (IsLow xs key lo) := ⟨hhi, h1.out, fun h => h2.out lo (Nat.le_refl _) h⟩
      clear h1 h2
      go_wp2
      go_ret
      exact ⟨lo, rfl, hL.out, rfl⟩

theorem rising_end {xs : List Int} {k : Nat} (hk : xs.length ≤ k) (h : ∀ j, j + 1 < k → xs.getD j 0 < xs.getD (j + 1) 0) : Rises xs := rises_at.2 fun j hj => h j (by omega)

set_option maxHeartbeats 1600000 in
set_option maxRecDepth 1000000 in
theorem rising_c (v : Value) (xs : List Int) (w : World) (hv : Holds w v (xs.map (Value.int .u64))) (hz : xs.length ≤ 1000) :
    Calls Try.prog 11 #[v] w fun e w' => ∃ r : Bool, e = .returned (.bool r) ∧ (r = true ↔ Rises xs) ∧ Below w.heap.size w w' := by
  obtain ⟨a, cap, rfl, hrow⟩ := hv
  rw [List.length_map]
  go_enter Try.func11, Try.ntmps11
  go_wp2
  go_loopw [3] (fun i wr => ∃ k : Nat, i = .int .i64 ((k : Int) + 1) ∧ k ≤ xs.length ∧ Hid (∀ j, j + 1 < k + 1 → xs.getD j 0 < xs.getD (j + 1) 0) ∧ Below w.heap.size w wr)
    (fun i _ => xs.length + 1 - (intOf i).toNat)
  case atStart => exact ⟨0, rfl, Nat.zero_le _, fun j hj => by omega, Below.refl _ _⟩
  case round =>
    obtain ⟨k, rfl, hk, hH, hnx⟩ := hrel
    by_cases hlt : k + 1 < xs.length
    · obtain ⟨b, off, rfl, hb, hc1⟩ := row_at hrow (n := k) (by omega)
      obtain ⟨_, _, hab, _, hc2⟩ := row_at hrow (n := k + 1) (by omega)
      cases hab
      have hc1' : wr.cell? ⟨b, off + k, none⟩ = some (.int .u64 (xs.getD k 0)) := (hnx.cell (by exact hb)).trans hc1
      have hc2' : wr.cell? ⟨b, off + (k + 1), none⟩ = some (.int .u64 (xs.getD (k + 1) 0)) := (hnx.cell (by exact hb)).trans hc2
      have hne := fun h => (rises_at (l := xs)).1 h k hlt
      by_cases hx : xs.getD (k + 1) 0 ≤ xs.getD k 0
      · have hN : Hid (¬ Rises xs) := fun h => by have := hne h; omega
        have hd : decide (xs.getD (k + 1) 0 ≤ xs.getD k 0) = true := decide_eq_true hx
        clear hne hc1 hc2 hH
        generalize xs.getD k 0 = y at *
        generalize xs.getD (k + 1) 0 = x at *
        go_wp2
        go_quiet (fail)
        go_wp2
        go_ret
        exact ⟨false, rfl, ⟨fun h => (by cases h), fun h => absurd h hN.out⟩, below_drewN hnx _⟩
      · have hn : Hid (∀ j, j + 1 < k + 1 + 1 → xs.getD j 0 < xs.getD (j + 1) 0) := fun j hj => by
          rcases Nat.lt_or_ge (j + 1) (k + 1) with h | h
          · exact hH.out j h
          · obtain rfl : j = k := by omega
            omega
        have hd : decide (xs.getD (k + 1) 0 ≤ xs.getD k 0) = false := decide_eq_false hx
        clear hne hc1 hc2 hH
        generalize xs.getD k 0 = y at *
        generalize xs.getD (k + 1) 0 = x at *
        go_wp2
        go_quiet (fail)
        go_wp2
        go_roundw
        case rel => exact ⟨k + 1, by go_num, by omega, hn.out, below_drewN hnx _⟩
        case measure => simp [intOf]; omega
    · have hR : Hid (Rises xs) := rising_end (k := k + 1) (by omega) hH.out
      clear hH
      go_wp2
      go_ret
      exact ⟨true, rfl, ⟨fun _ => hR.out, fun _ => rfl⟩, hnx⟩
end Go.Proofs.Ytfjhiaafabmpbae
