/-
  VALUES HELD AGAINST EACH OTHER: the program's order, by contract.
-/
import Derived.Test.YtnmjhbnadfjapaaRec
import Derived.StillTailTactics
import Derived.Laws.Cover1
import Derived.Deep.QuietTactic
import Derived.BigQuiet
namespace Go.Proofs.Ytnmjhbnadfjapaa
open Go.ChangeShapes Go.WideShapes Go.ChangeAt Go.RowKit

theorem less_tri : ∀ x y : List UInt8, Op.bytesLess x y = false → Op.bytesLess y x = false → x = y
  | [], [], _, _ => rfl
  | [], _ :: _, h, _ => by simp [Op.bytesLess] at h
  | _ :: _, [], _, h => by simp [Op.bytesLess] at h
  | a :: x, b :: y, h1, h2 => by
    simp only [Op.bytesLess, Bool.or_eq_false_iff, Bool.and_eq_false_iff, decide_eq_false_iff_not, beq_eq_false_iff_ne] at h1 h2
    obtain ⟨h3, h4⟩ := h1
    obtain ⟨h5, h6⟩ := h2
    have e : a = b := UInt8.le_antisymm (UInt8.not_lt.1 h5) (UInt8.not_lt.1 h3)
    subst e
    rw [less_tri x y (by rcases h4 with h | h; exact absurd rfl h; exact h) (by rcases h6 with h | h; exact absurd rfl h; exact h)]
theorem less_irrefl : ∀ x : List UInt8, Op.bytesLess x x = false
  | [] => rfl
  | a :: x => by simp [Op.bytesLess, less_irrefl x]
theorem less_asymm : ∀ x y : List UInt8, Op.bytesLess x y = true → Op.bytesLess y x = false
  | [], [], h => by simp [Op.bytesLess] at h
  | [], _ :: _, _ => by simp [Op.bytesLess]
  | _ :: _, [], h => by simp [Op.bytesLess] at h
  | a :: x, b :: y, h => by
    simp only [Op.bytesLess, Bool.or_eq_true, Bool.and_eq_true, decide_eq_true_eq, beq_iff_eq] at h
    simp only [Op.bytesLess, Bool.or_eq_false_iff, Bool.and_eq_false_iff, decide_eq_false_iff_not, beq_eq_false_iff_ne]
    rcases h with h | ⟨rfl, h⟩
    · exact ⟨fun h' => absurd (UInt8.lt_trans h h') (UInt8.lt_irrefl a), .inl fun e => by subst e; exact UInt8.lt_irrefl _ h⟩
    · exact ⟨UInt8.lt_irrefl a, .inr (less_asymm x y h)⟩
def ltS (a b : ByteArray) : Bool := Op.bytesLess a.toList b.toList
def cmpI (a b : Int) : Int := if a < b then -1 else if b < a then 1 else 0
def cmpS (a b : ByteArray) : Int := if ltS a b = true then -1 else if ltS b a = true then 1 else 0

theorem nani_c (a : Int) (w : World) : Calls Try.prog 87 #[.int .i64 a] w fun e w' => e = .returned (.bool false) ∧ w' = w := by
  go_enter Try.func87, Try.ntmps87
  go_wp2
  go_ret
  exact ⟨rfl, rfl⟩
theorem nans_c (a : ByteArray) (w : World) : Calls Try.prog 88 #[.string a] w fun e w' => e = .returned (.bool false) ∧ w' = w := by
  go_enter Try.func88, Try.ntmps88
  go_wp2
  go_ret
  exact ⟨rfl, rfl⟩
theorem cmps_c (a b : ByteArray) (w : World) : Calls Try.prog 73 #[.string a, .string b] w fun e w' => e = .returned (.int .i64 (cmpS a b)) ∧ w' = w := by
  have h := fun a w => nans_c a w
  have key : (Op.bytesLess a.toList b.toList = true ∧ Hid (cmpS a b = -1)) ∨ (Op.bytesLess a.toList b.toList = false ∧ (a.toList == b.toList) = false ∧ Hid (cmpS a b = 1)) ∨ (Op.bytesLess a.toList b.toList = false ∧ (a.toList == b.toList) = true ∧ Hid (cmpS a b = 0)) := by
    cases h1 : Op.bytesLess a.toList b.toList with
    | true => exact .inl ⟨rfl, by show _ = _; simp [cmpS, ltS, h1]⟩
    | false =>
      by_cases h2 : a.toList = b.toList
      · exact .inr (.inr ⟨rfl, by simp [h2], by show _ = _; simp [cmpS, ltS, h2, less_irrefl]⟩)
      · refine .inr (.inl ⟨rfl, by simp [h2], ?_⟩)
        cases h3 : Op.bytesLess b.toList a.toList with
        | true => show _ = _; simp [cmpS, ltS, h1, h3]
        | false => exact absurd (less_tri _ _ h1 h3) h2
  rcases key with ⟨h1, e⟩ | ⟨h1, h2, e⟩ | ⟨h1, h2, e⟩ <;> rw [e.out] <;> clear e <;>
  · go_enter Try.func73, Try.ntmps73
    go_wp2_with fail
    refine (h a w).mono ?_
    rintro e w ⟨rfl, rfl⟩
    go_wp2_with fail
    refine (h b _).mono ?_
    rintro e w ⟨rfl, rfl⟩
    go_wp2
    go_ret
    exact ⟨rfl, rfl⟩
theorem cmpi_c (a b : Int) (w : World) : Calls Try.prog 72 #[.int .i64 a, .int .i64 b] w fun e w' => e = .returned (.int .i64 (cmpI a b)) ∧ w' = w := by
  have h := fun a w => nani_c a w
  have key : (a < b ∧ Hid (cmpI a b = -1)) ∨ (¬ a < b ∧ b < a ∧ Hid (cmpI a b = 1)) ∨ (¬ a < b ∧ ¬ b < a ∧ Hid (cmpI a b = 0)) := by
    by_cases h1 : a < b
    · exact .inl ⟨h1, by show _ = _; simp [cmpI, h1]⟩
    · by_cases h2 : b < a
      · exact .inr (.inl ⟨h1, h2, by show _ = _; simp [cmpI, h1, h2]⟩)
      · exact .inr (.inr ⟨h1, h2, by show _ = _; simp [cmpI, h1, h2]⟩)
  rcases key with ⟨h1, e⟩ | ⟨h1, h2, e⟩ | ⟨h1, h2, e⟩ <;> rw [e.out] <;> clear e <;>
  · go_enter Try.func72, Try.ntmps72
    go_wp2_with fail
    refine (h a w).mono ?_
    rintro e w ⟨rfl, rfl⟩
    go_wp2_with fail
    refine (h b _).mono ?_
    rintro e w ⟨rfl, rfl⟩
    go_wp2
    go_ret
    exact ⟨rfl, rfl⟩
/-- The first that is not 0. -/
def orS (x y z : Int) : Int := if x = 0 then (if y = 0 then z else y) else x
theorem or_c (x y z : Int) (b : Nat) (w : World) (h0 : w.cell? ⟨b, 0, none⟩ = some (.int .i64 x)) (h1 : w.cell? ⟨b, 1, none⟩ = some (.int .i64 y)) (h2 : w.cell? ⟨b, 2, none⟩ = some (.int .i64 z)) :
    Calls Try.prog 71 #[.slice (some ⟨b, 0, none⟩) 3 3] w fun e w' => e = .returned (.int .i64 (orS x y z)) ∧ w' = w := by
  have key : (x ≠ 0 ∧ Hid (orS x y z = x)) ∨ (x = 0 ∧ y ≠ 0 ∧ Hid (orS x y z = y)) ∨ (x = 0 ∧ y = 0 ∧ z ≠ 0 ∧ Hid (orS x y z = z)) ∨ (x = 0 ∧ y = 0 ∧ z = 0 ∧ Hid (orS x y z = 0)) := by
    by_cases a : x = 0
    · by_cases b : y = 0
      · by_cases c : z = 0
        · exact .inr (.inr (.inr ⟨a, b, c, by show _ = _; simp [orS, a, b, c]⟩))
        · exact .inr (.inr (.inl ⟨a, b, c, by show _ = _; simp [orS, a, b]⟩))
      · exact .inr (.inl ⟨a, b, by show _ = _; simp [orS, a, b]⟩)
    · exact .inl ⟨a, by show _ = _; simp [orS, a]⟩
  generalize orS x y z = r at *
  have key0 : x ≠ 0 → Hid (r = x) := fun h => by rcases key with ⟨_, e⟩ | ⟨h', _⟩ | ⟨h', _⟩ | ⟨h', _⟩ <;> first | exact e | exact absurd h' h
  have key1 : x = 0 → y ≠ 0 → Hid (r = y) := fun h g => by rcases key with ⟨h', _⟩ | ⟨_, _, e⟩ | ⟨_, h', _⟩ | ⟨_, h', _⟩ <;> first | exact e | exact absurd h h' | exact absurd h' g
  have key2 : x = 0 → y = 0 → z ≠ 0 → Hid (r = z) := fun h g f => by rcases key with ⟨h', _⟩ | ⟨_, h', _⟩ | ⟨_, _, _, e⟩ | ⟨_, _, h', _⟩ <;> first | exact e | exact absurd h h' | exact absurd g h' | exact absurd h' f
  have key3 : x = 0 → y = 0 → z = 0 → Hid (r = 0) := fun h g f => by rcases key with ⟨h', _⟩ | ⟨_, h', _⟩ | ⟨_, _, h', _⟩ | ⟨_, _, _, e⟩ <;> first | exact e | exact absurd h h' | exact absurd g h' | exact absurd f h'
  clear key
  go_enter Try.func71, Try.ntmps71
  go_wp2_with fail
  go_loop [8] (fun i => ∃ k : Nat, i = .int .i64 k ∧ k ≤ 3 ∧ Hid (0 < k → x = 0) ∧ Hid (1 < k → y = 0) ∧ Hid (2 < k → z = 0)) (fun i => 3 - (intOf i).toNat)
  case atStart => exact ⟨0, rfl, Nat.zero_le _, fun h => by omega, fun h => by omega, fun h => by omega⟩
  case round =>
    obtain ⟨k, rfl, hk, f0, f1, f2⟩ := hrel
    rcases (by omega : k = 0 ∨ k = 1 ∨ k = 2 ∨ k = 3) with rfl | rfl | rfl | rfl
    · by_cases hx : x = 0
      · clear key0 key1 key2 key3 f0 f1 f2
        have hx' : Hid (x = 0) := hx
        subst hx
        go_wp2
        go_round
        case rel => exact ⟨1, rfl, by omega, fun _ => by first | rfl | trivial, fun h => by omega, fun h => by omega⟩
        case measure => simp [intOf]
      · have e := key0 hx
        clear key0 key1 key2 key3 f0 f1 f2
        go_wp2
        go_ret
        exact ⟨by rw [e.out]; rfl, rfl⟩
    · have hx := f0.out (by omega)
      subst hx
      by_cases hy : y = 0
      · clear key0 key1 key2 key3 f0 f1 f2
        subst hy
        go_wp2
        go_round
        case rel => exact ⟨2, rfl, by omega, fun _ => by first | rfl | trivial, fun _ => by first | rfl | trivial, fun h => by omega⟩
        case measure => simp [intOf]
      · have e := key1 rfl hy
        clear key0 key1 key2 key3 f0 f1 f2
        go_wp2
        go_ret
        exact ⟨by rw [e.out]; rfl, rfl⟩
    · have hx := f0.out (by omega)
      subst hx
      have hy := f1.out (by omega)
      subst hy
      by_cases hz : z = 0
      · clear key0 key1 key2 key3 f0 f1 f2
        subst hz
        go_wp2
        go_round
        case rel => exact ⟨3, rfl, by omega, fun _ => by first | rfl | trivial, fun _ => by first | rfl | trivial, fun _ => by first | rfl | trivial⟩
        case measure => simp [intOf]
      · have e := key2 rfl rfl hz
        clear key0 key1 key2 key3 f0 f1 f2
        go_wp2
        go_ret
        exact ⟨by rw [e.out]; rfl, rfl⟩
    · have e := key3 (f0.out (by omega)) (f1.out (by omega)) (f2.out (by omega))
      clear key0 key1 key2 key3 f0 f1 f2
      go_wp2
      go_ret
      exact ⟨by rw [e.out]; rfl, rfl⟩

end Go.Proofs.Ytnmjhbnadfjapaa
/-
  VALUES HELD AGAINST EACH OTHER: the program's order of values, by contract.
-/
namespace Go.Proofs.Ytnmjhbnadfjapaa
open Go.ChangeShapes Go.WideShapes Go.ChangeAt Go.RowKit

theorem still_tail2 {P : Program} {id : Nat} {Q : Exit → Act → World → Prop} {a : Act} {w : World} {l : List Oper} (n : Nat) (hm : P.follows .mixedOrders = true) (hB : Region.lexTailB .any l.toArray n = true) (w2 : World) (hw : w2 = w.drew)
    (h : wpStill P l.toArray w2 (fun a' => wpList P l.toArray Q (l.drop n) a' w2) (l.take n) a) : (Code.region id l.toArray true).wp P Q a w := by
  subst hw; exact wp_region_still_tail n hm hB h
/-- Two boxes, and a draw. -/
theorem boxes2 (w : World) (a b : Array Value) (t u : TypeId) : Below w.heap.size w ((w.alloc (.cells a t)).alloc (.cells b u)).drew ∧
    (∀ j x, a[j]? = some x → ((w.alloc (.cells a t)).alloc (.cells b u)).drew.cell? ⟨w.heap.size, j, none⟩ = some x) ∧
    (∀ j x, b[j]? = some x → ((w.alloc (.cells a t)).alloc (.cells b u)).drew.cell? ⟨w.heap.size + 1, j, none⟩ = some x) := by
  have e1 : ((w.alloc (.cells a t)).alloc (.cells b u)).drew.heap[w.heap.size]? = some (.cells a t) := by
    show ((w.heap.push (Obj.cells a t)).push (Obj.cells b u))[w.heap.size]? = _
    simp [Array.getElem?_push]
  have e2 : ((w.alloc (.cells a t)).alloc (.cells b u)).drew.heap[w.heap.size + 1]? = some (.cells b u) := by
    show ((w.heap.push (Obj.cells a t)).push (Obj.cells b u))[w.heap.size + 1]? = _
    rw [show w.heap.size + 1 = (w.heap.push (Obj.cells a t)).size by simp]
    exact Array.getElem?_push_size
  refine ⟨(((Below.refl _ _).alloc (Nat.le_refl _) _).alloc (by show _ ≤ (w.heap.push (Obj.cells a t)).size; simp) _).drew, fun j x h => ?_, fun j x h => ?_⟩
  · simp only [World.cell?, e1]; simpa using h
  · simp only [World.cell?, e2]; simpa using h
/-- A value. -/
structure V where
  k : Int
  n : Int
  s : ByteArray
def V.v (x : V) : Value := .agg #[.int .i64 x.k, .int .i64 x.n, .string x.s]
def vcmp (x y : V) : Int := orS (cmpI x.k y.k) (cmpI x.n y.n) (cmpS x.s y.s)
set_option maxRecDepth 1000000 in
theorem vcmp_c (k n k' n' : Int) (s s' : ByteArray) (w : World) : Calls Try.prog 52 #[.agg #[.int .i64 k, .int .i64 n, .string s], .agg #[.int .i64 k', .int .i64 n', .string s']] w
    fun e w' => e = .returned (.int .i64 (orS (cmpI k k') (cmpI n n') (cmpS s s'))) ∧ Below w.heap.size w w' := by
  have hi := fun a b w => cmpi_c a b w
  have hs := fun w => cmps_c s s' w
  generalize cmpS s s' = C at *
  have hk := fun w => hi k k' w
  have hn := fun w => hi n n' w
  clear hi
  generalize cmpI k k' = A at *
  generalize cmpI n n' = B at *
  have ho := fun b w h0 h1 h2 => or_c A B C b w h0 h1 h2
  generalize orS A B C = R at *
  go_enter Try.func52, Try.ntmps52
  go_wp2_with fail
  obtain ⟨hB, hc1, hc2⟩ := boxes2 w #[.int .i64 k, .int .i64 n, .string s] #[.int .i64 k', .int .i64 n', .string s'] 27 27
  obtain ⟨w2, hw2⟩ : ∃ w2, w2 = ((w.alloc (.cells #[.int .i64 k, .int .i64 n, .string s] 27)).alloc (.cells #[.int .i64 k', .int .i64 n', .string s'] 27)).drew := ⟨_, rfl⟩
  rw [← hw2] at hB hc1 hc2
  have f0 := hc1 0 _ rfl
  have f1 := hc1 1 _ rfl
  have f2 := hc1 2 _ rfl
  have g0 := hc2 0 _ rfl
  have g1 := hc2 1 _ rfl
  have g2 := hc2 2 _ rfl
  clear hc1 hc2
  refine still_tail2 15 (by kernel_rfl) (by kernel_rfl) w2 hw2 ?_
  clear hw2
  simp only [List.take_succ_cons, List.take_zero, List.drop_succ_cons, List.drop_zero]
  repeat still_step
  still_call (hk _)
  repeat still_step
  still_call (hn _)
  repeat still_step
  still_call (hs _)
  refine wpStill_nil ?_
  clear hk hn hs f0 f1 f2 g0 g1 g2
  have hsz := hB.size
  go_wp2_with fail
  refine (ho w2.heap.size _ (by rw [World.cell?_alloc_new]; rfl) (by rw [World.cell?_alloc_new]; rfl) (by rw [World.cell?_alloc_new]; rfl)).mono ?_
  rintro e w3 ⟨rfl, rfl⟩
  go_wp2
  go_ret
  exact ⟨rfl, hB.alloc hsz _⟩
end Go.Proofs.Ytnmjhbnadfjapaa
/-
  VALUES HELD AGAINST EACH OTHER: the reference's order, by contract.
-/
namespace Go.Proofs.Ytnmjhbnadfjapaa
open Go.ChangeShapes Go.WideShapes Go.ChangeAt Go.RowKit

/-- How two values stand, as the reference looks. -/
theorem stands (k n k' n' : Int) (s s' : ByteArray) {M : Prop}
    (h1 : k < k' → Hid (orS (cmpI k k') (cmpI n n') (cmpS s s') = -1) → M)
    (h2 : k = k' → n < n' → Hid (orS (cmpI k k') (cmpI n n') (cmpS s s') = -1) → M)
    (h3 : k = k' → n = n' → Op.bytesLess s.toList s'.toList = true → Hid (orS (cmpI k k') (cmpI n n') (cmpS s s') = -1) → M)
    (h4 : k = k' → n = n' → s = s' → Op.bytesLess s.toList s.toList = false → Hid (orS (cmpI k k') (cmpI n n') (cmpS s s') = 0) → M)
    (h5 : k' < k → (k == k') = false → Hid (orS (cmpI k k') (cmpI n n') (cmpS s s') = 1) → M)
    (h6 : k = k' → n' < n → (n == n') = false → Hid (orS (cmpI k k') (cmpI n n') (cmpS s s') = 1) → M)
    (h7 : k = k' → n = n' → Op.bytesLess s.toList s'.toList = false → (s.toList == s'.toList) = false → Hid (orS (cmpI k k') (cmpI n n') (cmpS s s') = 1) → M) : M := by
  by_cases a1 : k < k'
  · exact h1 a1 (by show _ = _; simp [orS, cmpI, a1])
  by_cases a2 : k' < k
  · exact h5 a2 (by simp; omega) (by show _ = _; simp [orS, cmpI, a1, a2])
  have ek : k = k' := by omega
  subst ek
  by_cases a3 : n < n'
  · exact h2 rfl a3 (by show _ = _; simp [orS, cmpI, a3])
  by_cases a4 : n' < n
  · exact h6 rfl a4 (by simp; omega) (by show _ = _; simp [orS, cmpI, a3, a4])
  have en : n = n' := by omega
  subst en
  cases a5 : Op.bytesLess s.toList s'.toList with
  | true => exact h3 rfl rfl a5 (by show _ = _; simp [orS, cmpI, cmpS, ltS, a5])
  | false =>
    cases a6 : Op.bytesLess s'.toList s.toList with
    | true =>
      refine h7 rfl rfl a5 ?_ (by show _ = _; simp [orS, cmpI, cmpS, ltS, a5, a6])
      rw [beq_eq_false_iff_ne]
      intro e
      rw [e, less_irrefl] at a6
      cases a6
    | false =>
      have e : s = s' := by
        have e := less_tri _ _ a5 a6
        rw [Go.ByteArray.toList_eq, Go.ByteArray.toList_eq] at e
        exact ByteArray.ext (Array.ext' e)
      subst e
      exact h4 rfl rfl rfl a5 (by show _ = _; simp [orS, cmpI, cmpS, ltS, less_irrefl])
set_option maxHeartbeats 800000 in
theorem rcmp_c (k n k' n' : Int) (s s' : ByteArray) (w : World) : Calls Try.prog 54 #[.agg #[.int .i64 k, .int .i64 n, .string s], .agg #[.int .i64 k', .int .i64 n', .string s']] w
    fun e w' => e = .returned (.int .i64 (orS (cmpI k k') (cmpI n n') (cmpS s s'))) ∧ Below w.heap.size w w' := by
  obtain ⟨hB, -, -⟩ := boxes2 w #[.int .i64 k, .int .i64 n, .string s] #[.int .i64 k', .int .i64 n', .string s'] 27 27
  have hB : Below w.heap.size w ((w.alloc (.cells #[.int .i64 k, .int .i64 n, .string s] 27)).alloc (.cells #[.int .i64 k', .int .i64 n', .string s'] 27)) := ⟨hB.os, hB.tape, hB.output, hB.size, hB.block⟩
  refine stands k n k' n' s s' (fun a e => ?_) (fun a b e => ?_) (fun a b c e => ?_) (fun a b c d e => ?_) (fun a b e => ?_) (fun a b c e => ?_) (fun a b c d e => ?_) <;> rw [e.out] <;> clear e
  · go_enter Try.func54, Try.ntmps54
    go_wp2
    go_ret
    exact ⟨rfl, hB⟩
  · subst a
    go_enter Try.func54, Try.ntmps54
    go_wp2
    go_ret
    exact ⟨rfl, hB⟩
  · subst a b
    go_enter Try.func54, Try.ntmps54
    go_wp2
    go_ret
    exact ⟨rfl, hB⟩
  · subst a b c
    go_enter Try.func54, Try.ntmps54
    go_wp2
    go_ret
    exact ⟨rfl, hB⟩
  · go_enter Try.func54, Try.ntmps54
    go_wp2
    go_ret
    exact ⟨rfl, hB⟩
  · subst a
    go_enter Try.func54, Try.ntmps54
    go_wp2
    go_ret
    exact ⟨rfl, hB⟩
  · subst a b
    go_enter Try.func54, Try.ntmps54
    go_wp2
    go_ret
    exact ⟨rfl, hB⟩
end Go.Proofs.Ytnmjhbnadfjapaa
/-
  A REGION THAT DRAWS ITS ORDER, WHOSE OPERATIONS READ AND WHOSE CALLEES MAKE MEMORY BUT WRITE NONE THAT WAS THERE: one walk. No function is named here.
-/
namespace Go.Proofs.Ytnmjhbnadfjapaa
open Go.ChangeShapes Go.WideShapes Go.ChangeAt Go.RowKit

/-- A world of the class. -/
structure In (C : World → Prop) where
  w : World
  h : C w
theorem wp_region_later {P : Program} {id : Nat} {Q : Exit → Act → World → Prop} {a : Act} {w : World} {l : List Oper} (C : World → Prop) (hm : P.follows .mixedOrders = true) (hB : Region.lexB .any l.toArray = true) (hC : C w.drew)
    (h : ∀ _ : Nonempty (In C), wpQuiet P l.toArray (fun w' => ∃ x : In C, w' = x.w) (fun a' => ∀ w', C w' → Q .normal a' w') l a) : (Code.region id l.toArray true).wp P Q a w := by
  refine wp_region_quiet (C := C) hm hB hC ?_
  have h := h ⟨⟨_, hC⟩⟩
  have e : (fun w' => ∃ x : In C, w' = x.w) = C := by
    funext w'
    exact propext ⟨fun ⟨x, hx⟩ => hx ▸ x.h, fun h => ⟨⟨w', h⟩, rfl⟩⟩
  rw [e] at h
  simpa using h
theorem later_of {P : Program} {C : World → Prop} {f : FuncId} {args : Array Value} {v : Value} {x : In C} (h : Calls P f args x.w fun e w' => e = .returned v ∧ C w') :
    Calls P f args x.w fun e w'' => e = .returned v ∧ ∃ y : In C, w'' = y.w :=
  h.mono fun _ w' ⟨he, hw⟩ => ⟨he, ⟨w', hw⟩, rfl⟩

/-- All that lay in w lies as it lay, and these cells hold these values. -/
def Keeps (w : World) (F : List (Addr × Value)) (x : World) : Prop := Below w.heap.size w x ∧ ∀ p ∈ F, x.cell? p.1 = some p.2
theorem Keeps.below {w x y : World} {F : List (Addr × Value)} (h : Keeps w F x) (hb : Below x.heap.size x y) : Keeps w F y :=
  ⟨h.1.trans (hb.mono h.1.size), fun p hp => (hb.cell (World.block_lt_of_cell? x p.1 (h.2 p hp))).trans (h.2 p hp)⟩
theorem Keeps.drew {w x : World} {F : List (Addr × Value)} (h : Keeps w F x) : Keeps w F x.drew := ⟨h.1.drew, fun p hp => h.2 p hp⟩
theorem Keeps.at {w : World} {F : List (Addr × Value)} (j : Nat) {p : Addr × Value} (hj : F[j]? = some p) (x : In (Keeps w F)) : x.w.cell? p.1 = some p.2 :=
  x.h.2 p (List.mem_of_getElem? hj)
/-- A callee by its contract, in a world of the class. -/
theorem Keeps.calls {P : Program} {w : World} {F : List (Addr × Value)} {f : FuncId} {args : Array Value} {v : Value} (h : ∀ w, Calls P f args w fun e w' => e = .returned v ∧ Below w.heap.size w w') (x : In (Keeps w F)) :
    Calls P f args x.w fun e w'' => e = .returned v ∧ ∃ y : In (Keeps w F), w'' = y.w :=
  later_of ((h x.w).mono fun _ _ ⟨he, hb⟩ => ⟨he, x.h.below hb⟩)
end Go.Proofs.Ytnmjhbnadfjapaa
