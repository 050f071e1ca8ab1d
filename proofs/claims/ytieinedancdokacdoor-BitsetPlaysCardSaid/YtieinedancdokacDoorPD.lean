/-
  WHAT COMES OF TWO SETS, WORD BY WORD: by contract. A set may be none.
-/
import Derived.Test.YtieinedancdokacDoorPB
namespace Go.Proofs.YtieinedancdokacDoor
open Go.ChangeShapes Go.WideShapes Go.ChangeAt Go.RowKit

/-- A set, or none. -/
def SetV (w : World) (v : Value) (ws : List Nat) : Prop := (v = .pointer none ∧ ws = []) ∨ ∃ b g, v = .pointer (some ⟨b, 0, none⟩) ∧ SetAt w b g ws
theorem SetV.below {w w' : World} {v : Value} {ws : List Nat} (h : SetV w v ws) (hB : Below w.heap.size w w') : SetV w' v ws := by
  rcases h with h | ⟨b, g, h1, h2⟩
  · exact .inl h
  · exact .inr ⟨b, g, h1, h2.below hB⟩
set_option maxHeartbeats 800000 in
theorem wideV_c (v : Value) (ws : List Nat) (w : World) (h : SetV w v ws) : Calls Tryd.prog 21 #[v] w fun e w' => e = .returned (.int .i64 ws.length) ∧ w' = w := by
  rcases h with ⟨rfl, rfl⟩ | ⟨b, g, rfl, h⟩
  · go_enter Tryd.func21, Tryd.ntmps21
    go_wp2
    go_ret
    exact ⟨rfl, rfl⟩
  · exact wide_c b g ws w h
set_option maxHeartbeats 800000 in
theorem wordV_c (v : Value) (ws : List Nat) (i : Nat) (w : World) (h : SetV w v ws) : Calls Tryd.prog 23 #[v, .int .i64 i] w fun e w' => e = .returned (.int .u64 (ws.getD i 0 : Nat)) ∧ w' = w := by
  rcases h with ⟨rfl, rfl⟩ | ⟨b, g, rfl, h⟩
  · have hw := wideV_c (.pointer none) [] w (.inl ⟨rfl, rfl⟩)
    have hi : (0 : Int) ≤ (i : Int) := by omega
    simp only [List.length_nil] at hw
    go_enter Tryd.func23, Tryd.ntmps23
    go_wp2_with fail
    refine hw.mono ?_
    rintro e w' ⟨rfl, rfl⟩
    clear hw
    go_wp2
    go_ret
    exact ⟨rfl, rfl⟩
  · exact word_c b g ws i w h
/-- The first words, joined. -/
def joined (f : Nat → Nat → Nat) (xs ys : List Nat) (N k : Nat) : List Nat := (List.range N).map fun i => if i < k then f (xs.getD i 0) (ys.getD i 0) else 0
theorem joined_len (f : Nat → Nat → Nat) (xs ys : List Nat) (N k : Nat) : (joined f xs ys N k).length = N := by simp [joined]
theorem joined_zero (f : Nat → Nat → Nat) (xs ys : List Nat) (N : Nat) : joined f xs ys N 0 = List.replicate N 0 := by
  apply List.ext_getElem <;> simp [joined]
theorem joined_set (f : Nat → Nat → Nat) (xs ys : List Nat) (N k : Nat) : (joined f xs ys N k).set k (f (xs.getD k 0) (ys.getD k 0)) = joined f xs ys N (k + 1) := by
  apply List.ext_getElem?
  intro j
  rw [List.getElem?_set]
  by_cases hj : k = j
  · subst hj
    by_cases hk : k < N
    · simp [joined, hk]
    · simp [joined, hk]
  · rw [if_neg hj]
    by_cases hN : j < N
    · simp only [joined, List.getElem?_map, List.getElem?_range hN, Option.map_some]
      congr 1
      by_cases h1 : j < k
      · rw [if_pos h1, if_pos (by omega)]
      · rw [if_neg h1, if_neg (by omega)]
    · simp [joined, hN]
theorem joined_at (f : Nat → Nat → Nat) (xs ys : List Nat) (N i : Nat) (hi : i < N) : (joined f xs ys N N).getD i 0 = f (xs.getD i 0) (ys.getD i 0) := by
  rw [List.getD_eq_getElem?_getD, joined, List.getElem?_map, List.getElem?_range hi]
  simp [hi]
theorem joined_fit {f : Nat → Nat → Nat} {xs ys : List Nat} {N k : Nat} (hx : Fit xs) (hy : Fit ys) (hN : N ≤ 1024) (hf : ∀ x y, x < 18446744073709551616 → y < 18446744073709551616 → f x y < 18446744073709551616) : Fit (joined f xs ys N k) :=
  ⟨fun z hz => by
    simp only [joined, List.mem_map] at hz
    obtain ⟨i, _, rfl⟩ := hz
    split
    · exact hf _ _ (hx.at i) (hy.at i)
    · omega, by rw [joined_len]; exact hN⟩
end Go.Proofs.YtieinedancdokacDoor
/-
  WHAT IS ASKED OF TWO SETS, WORD BY WORD: by contract. A set may be none.
-/
namespace Go.Proofs.YtieinedancdokacDoor
open Go.ChangeShapes Go.WideShapes Go.ChangeAt Go.RowKit

/-- Whether all of the first words say so. -/
def every (f : Nat → Nat → Bool) (xs ys : List Nat) (N : Nat) : Bool := (List.range N).all fun i => f (xs.getD i 0) (ys.getD i 0)
theorem every_end {f : Nat → Nat → Bool} {xs ys : List Nat} {N : Nat} (h : ∀ i, i < N → f (xs.getD i 0) (ys.getD i 0) = true) : every f xs ys N = true :=
  List.all_eq_true.2 fun i hi => h i (List.mem_range.1 hi)
theorem every_not {f : Nat → Nat → Bool} {xs ys : List Nat} {N k : Nat} (hk : k < N) (h : f (xs.getD k 0) (ys.getD k 0) = false) : every f xs ys N = false := by
  cases he : every f xs ys N with
  | false => rfl
  | true =>
    have := List.all_eq_true.1 he k (List.mem_range.2 hk)
    rw [h] at this
    cases this
end Go.Proofs.YtieinedancdokacDoor
/-
  BOTH SETS TOGETHER, WHAT BOTH HAVE, WHAT ONE HAS AND THE OTHER LACKS: by contract. A set may be none.
-/
namespace Go.Proofs.YtieinedancdokacDoor
open Go.ChangeShapes Go.WideShapes Go.ChangeAt Go.RowKit

theorem enterAny (F : Nat) (h : ∀ args w, (callFunc F args).run Tryd.prog w = .ok (.enter F args) w) : ∀ args w, (callFunc F args).run Tryd.prog w = .ok (.enter F args) w := h
def minusN (x y : Nat) : Nat := x &&& (18446744073709551615 - y)
theorem has_joined (f : Nat → Nat → Nat) (g : Bool → Bool → Bool) (xs ys : List Nat) (hx : Fit xs) (hy : Fit ys) (h0 : g false false = false) (hg : ∀ x y j, x < 18446744073709551616 → y < 18446744073709551616 → j < 64 → (f x y).testBit j = g (x.testBit j) (y.testBit j)) (k : Nat) :
    has (joined f xs ys (max xs.length ys.length) (max xs.length ys.length)) k = g (has xs k) (has ys k) := by
  by_cases hk : k / 64 < max xs.length ys.length
  · unfold has
    rw [joined_at f xs ys _ _ hk, hg _ _ _ (hx.at _) (hy.at _) (by omega)]
  · rw [has_end (by rw [joined_len]; omega), has_end (by omega), has_end (by omega), h0]
theorem testBit_minus (x y j : Nat) (hy : y < 18446744073709551616) (hj : j < 64) : (minusN x y).testBit j = (x.testBit j && !(y.testBit j)) := by
  unfold minusN
  rw [Nat.testBit_and]
  congr 1
  have e : (18446744073709551615 : Nat) - y = 2 ^ 64 - (y + 1) := by omega
  rw [e, Nat.testBit_two_pow_sub_succ hy]
  simp [hj]
/-- What lies behind a join. -/
structure Joined (w w' : World) (b : Nat) (g : Option Nat) (us : List Nat) (p : Nat → Bool) : Prop where
  lies : SetAt w' b g us
  fit : Fit us
  is : ∀ k, has us k = p k
  below : Below w.heap.size w w'
end Go.Proofs.YtieinedancdokacDoor
/-
  WHETHER TWO SETS ARE THE SAME, ONE WITHIN THE OTHER, OR MEET: by contract. A set may be none.
-/
namespace Go.Proofs.YtieinedancdokacDoor
open Go.ChangeShapes Go.WideShapes Go.ChangeAt Go.RowKit

/-- A question of words, as one of numbers. -/
theorem every_iff (f : Nat → Nat → Bool) (q : Bool → Bool → Prop) (xs ys : List Nat) (hx : Fit xs) (hy : Fit ys) (h0 : q false false) (hf : ∀ x y, x < 18446744073709551616 → y < 18446744073709551616 → (f x y = true ↔ ∀ j, j < 64 → q (x.testBit j) (y.testBit j))) :
    every f xs ys (max xs.length ys.length) = true ↔ ∀ k, q (has xs k) (has ys k) := by
  unfold every
  rw [List.all_eq_true]
  constructor
  · intro h k
    by_cases hk : k / 64 < max xs.length ys.length
    · exact (hf _ _ (hx.at _) (hy.at _)).1 (h (k / 64) (List.mem_range.2 hk)) (k % 64) (by omega)
    · rw [has_end (by omega), has_end (by omega)]; exact h0
  · intro h i hi
    refine (hf _ _ (hx.at _) (hy.at _)).2 fun j hj => ?_
    have := h (64 * i + j)
    unfold has at this
    rwa [show (64 * i + j) / 64 = i by omega, show (64 * i + j) % 64 = j by omega] at this
theorem eq_bits {x y : Nat} (hx : x < 18446744073709551616) (hy : y < 18446744073709551616) (h : ∀ j, j < 64 → x.testBit j = y.testBit j) : x = y := by
  apply Nat.eq_of_testBit_eq
  intro j
  by_cases hj : j < 64
  · exact h j hj
  · rw [Nat.testBit_lt_two_pow (Nat.lt_of_lt_of_le hx (by rw [show (18446744073709551616 : Nat) = 2 ^ 64 by decide]; exact Nat.pow_le_pow_right (by omega) (by omega))),
      Nat.testBit_lt_two_pow (Nat.lt_of_lt_of_le hy (by rw [show (18446744073709551616 : Nat) = 2 ^ 64 by decide]; exact Nat.pow_le_pow_right (by omega) (by omega)))]
theorem zero_bits {x : Nat} (hx : x < 18446744073709551616) : (x == 0) = true ↔ ∀ j, j < 64 → x.testBit j = false := by
  rw [beq_iff_eq]
  constructor
  · rintro rfl j _; simp
  · intro h
    exact eq_bits hx (by omega) fun j hj => by rw [h j hj]; simp
end Go.Proofs.YtieinedancdokacDoor
