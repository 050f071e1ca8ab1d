/-
  VALUES HELD AGAINST EACH OTHER: the program's order, by contract.
-/
import Derived.Test.YtfjhiaafabmpbabRows1
import Derived.StillTailTactics
import Derived.Laws.Cover1
namespace Go.Proofs.Ytfjhiaafabmpbab
open Go.ChangeShapes Go.WideShapes Go.ChangeAt Go.RowKit

theorem less_tri : ∀ x y : List UInt8, Op.bytesLess x y = false → Op.bytesLess y x = false → x = y
  | [], [], _, _ => rfl
  | [], _ :: _, h, _ => by simp [Op.bytesLess] at h
  | _ :: _, [], _, h => by simp [Op.bytesLess] at h
  | a :: x, b :: y, h1, h2 => by
    simp only [Op.bytesLess, Bool.or_eq_false_iff, Bool.and_eq_false_iff, decide_eq_false_iff_not, beq_eq_false_iff_ne] at h1 h2
    obtain ⟨h3, h4⟩ := h1
    obtain ⟨h5, h6⟩ := h2
    have e : a = b := UInt8.le_antisymm (UInt8.not_lt.1 h5) (UInt8.not_lt.1 h3)
    subst e
    rw [less_tri x y (by rcases h4 with h | h; exact absurd rfl h; exact h) (by rcases h6 with h | h; exact absurd rfl h; exact h)]
theorem less_irrefl : ∀ x : List UInt8, Op.bytesLess x x = false
  | [] => rfl
  | a :: x => by simp [Op.bytesLess, less_irrefl x]
theorem less_asymm : ∀ x y : List UInt8, Op.bytesLess x y = true → Op.bytesLess y x = false
  | [], [], h => by simp [Op.bytesLess] at h
  | [], _ :: _, _ => by simp [Op.bytesLess]
  | _ :: _, [], h => by simp [Op.bytesLess] at h
  | a :: x, b :: y, h => by
    simp only [Op.bytesLess, Bool.or_eq_true, Bool.and_eq_true, decide_eq_true_eq, beq_iff_eq] at h
    simp only [Op.bytesLess, Bool.or_eq_false_iff, Bool.and_eq_false_iff, decide_eq_false_iff_not, beq_eq_false_iff_ne]
    rcases h with h | ⟨rfl, h⟩
    · exact ⟨fun h' => absurd (UInt8.lt_trans h h') (UInt8.lt_irrefl a), .inl fun e => by subst e; exact UInt8.lt_irrefl _ h⟩
    · exact ⟨UInt8.lt_irrefl a, .inr (less_asymm x y h)⟩
def ltS (a b : ByteArray) : Bool := Op.bytesLess a.toList b.toList
def cmpI (a b : Int) : Int := if a < b then -1 else if b < a then 1 else 0
def cmpS (a b : ByteArray) : Int := if ltS a b = true then -1 else if ltS b a = true then 1 else 0

theorem nani_c (a : Int) (w : World) : Calls Try.prog 20 #[.int .i64 a] w fun e w' => e = .returned (.bool false) ∧ w' = w := by
  go_enter Try.func20, Try.ntmps20
  go_wp2
  go_ret
  exact ⟨rfl, rfl⟩
theorem nans_c (a : ByteArray) (w : World) : Calls Try.prog 21 #[.string a] w fun e w' => e = .returned (.bool false) ∧ w' = w := by
  go_enter Try.func21, Try.ntmps21
  go_wp2
  go_ret
  exact ⟨rfl, rfl⟩
theorem cmps_c (a b : ByteArray) (w : World) : Calls Try.prog 14 #[.string a, .string b] w fun e w' => e = .returned (.int .i64 (cmpS a b)) ∧ w' = w := by
  have h := fun a w => nans_c a w
  have key : (Op.bytesLess a.toList b.toList = true ∧ Hid (cmpS a b = -1)) ∨ (Op.bytesLess a.toList b.toList = false ∧ (a.toList == b.toList) = false ∧ Hid (cmpS a b = 1)) ∨ (Op.bytesLess a.toList b.toList = false ∧ (a.toList == b.toList) = true ∧ Hid (cmpS a b = 0)) := by
    cases h1 : Op.bytesLess a.toList b.toList with
    | true => exact .inl ⟨rfl, by show _ = _; simp [cmpS, ltS, h1]⟩
    | false =>
      by_cases h2 : a.toList = b.toList
      · exact .inr (.inr ⟨rfl, by simp [h2], by show _ = _; simp [cmpS, ltS, h2, less_irrefl]⟩)
      · refine .inr (.inl ⟨rfl, by simp [h2], ?_⟩)
        cases h3 : Op.bytesLess b.toList a.toList with
        | true => show _ = _; simp [cmpS, ltS, h1, h3]
        | false => exact absurd (less_tri _ _ h1 h3) h2
  rcases key with ⟨h1, e⟩ | ⟨h1, h2, e⟩ | ⟨h1, h2, e⟩ <;> rw [e.out] <;> clear e <;>
  · go_enter Try.func14, Try.ntmps14
    go_wp2_with fail
    refine (h a w).mono ?_
    rintro e w ⟨rfl, rfl⟩
    go_wp2_with fail
    refine (h b _).mono ?_
    rintro e w ⟨rfl, rfl⟩
    go_wp2
    go_ret
    exact ⟨rfl, rfl⟩
theorem cmpi_c (a b : Int) (w : World) : Calls Try.prog 13 #[.int .i64 a, .int .i64 b] w fun e w' => e = .returned (.int .i64 (cmpI a b)) ∧ w' = w := by
  have h := fun a w => nani_c a w
  have key : (a < b ∧ Hid (cmpI a b = -1)) ∨ (¬ a < b ∧ b < a ∧ Hid (cmpI a b = 1)) ∨ (¬ a < b ∧ ¬ b < a ∧ Hid (cmpI a b = 0)) := by
    by_cases h1 : a < b
    · exact .inl ⟨h1, by show _ = _; simp [cmpI, h1]⟩
    · by_cases h2 : b < a
      · exact .inr (.inl ⟨h1, h2, by show _ = _; simp [cmpI, h1, h2]⟩)
      · exact .inr (.inr ⟨h1, h2, by show _ = _; simp [cmpI, h1, h2]⟩)
  rcases key with ⟨h1, e⟩ | ⟨h1, h2, e⟩ | ⟨h1, h2, e⟩ <;> rw [e.out] <;> clear e <;>
  · go_enter Try.func13, Try.ntmps13
    go_wp2_with fail
    refine (h a w).mono ?_
    rintro e w ⟨rfl, rfl⟩
    go_wp2_with fail
    refine (h b _).mono ?_
    rintro e w ⟨rfl, rfl⟩
    go_wp2
    go_ret
    exact ⟨rfl, rfl⟩
/-- The first that is not 0. -/
def orS (x y z : Int) : Int := if x = 0 then (if y = 0 then z else y) else x
theorem or_c (x y z : Int) (b : Nat) (w : World) (h0 : w.cell? ⟨b, 0, none⟩ = some (.int .i64 x)) (h1 : w.cell? ⟨b, 1, none⟩ = some (.int .i64 y)) (h2 : w.cell? ⟨b, 2, none⟩ = some (.int .i64 z)) :
    Calls Try.prog 12 #[.slice (some ⟨b, 0, none⟩) 3 3] w fun e w' => e = .returned (.int .i64 (orS x y z)) ∧ w' = w := by
  have key : (x ≠ 0 ∧ Hid (orS x y z = x)) ∨ (x = 0 ∧ y ≠ 0 ∧ Hid (orS x y z = y)) ∨ (x = 0 ∧ y = 0 ∧ z ≠ 0 ∧ Hid (orS x y z = z)) ∨ (x = 0 ∧ y = 0 ∧ z = 0 ∧ Hid (orS x y z = 0)) := by
    by_cases a : x = 0
    · by_cases b : y = 0
      · by_cases c : z = 0
        · exact .inr (.inr (.inr ⟨a, b, c, by show _ = _; simp [orS, a, b, c]⟩))
        · exact .inr (.inr (.inl ⟨a, b, c, by show _ = _; simp [orS, a, b]⟩))
      · exact .inr (.inl ⟨a, b, by show _ = _; simp [orS, a, b]⟩)
    · exact .inl ⟨a, by show _ = _; simp [orS, a]⟩
  generalize orS x y z = r at *
  have key0 : x ≠ 0 → Hid (r = x) := fun h => by rcases key with ⟨_, e⟩ | ⟨h', _⟩ | ⟨h', _⟩ | ⟨h', _⟩ <;> first | exact e | exact absurd h' h
  have key1 : x = 0 → y ≠ 0 → Hid (r = y) := fun h g => by rcases key with ⟨h', _⟩ | ⟨_, _, e⟩ | ⟨_, h', _⟩ | ⟨_, h', _⟩ <;> first | exact e | exact absurd h h' | exact absurd h' g
  have key2 : x = 0 → y = 0 → z ≠ 0 → Hid (r = z) := fun h g f => by rcases key with ⟨h', _⟩ | ⟨_, h', _⟩ | ⟨_, _, _, e⟩ | ⟨_, _, h', _⟩ <;> first | exact e | exact absurd h h' | exact absurd g h' | exact absurd h' f
  have key3 : x = 0 → y = 0 → z = 0 → Hid (r = 0) := fun h g f => by rcases key with ⟨h', _⟩ | ⟨_, h', _⟩ | ⟨_, _, h', _⟩ | ⟨_, _, _, e⟩ <;> first | exact e | exact absurd h h' | exact absurd g h' | exact absurd f h'
  clear key
  go_enter Try.func12, Try.ntmps12
  go_wp2_with fail
  go_loop [8] (fun i => ∃ k : Nat, i = .int .i64 k ∧ k ≤ 3 ∧ Hid (0 < k → x = 0) ∧ Hid (1 < k → y = 0) ∧ Hid (2 < k → z = 0)) (fun i => 3 - (intOf i).toNat)
  case atStart => exact ⟨0, rfl, Nat.zero_le _, fun h => by omega, fun h => by omega, fun h => by omega⟩
  case round =>
    obtain ⟨k, rfl, hk, f0, f1, f2⟩ := hrel
    rcases (by omega : k = 0 ∨ k = 1 ∨ k = 2 ∨ k = 3) with rfl | rfl | rfl | rfl
    · by_cases hx : x = 0
      · clear key0 key1 key2 key3 f0 f1 f2
        have hx' : Hid (x = 0) := hx
        subst hx
        go_wp2
        go_round
        case rel => exact ⟨1, rfl, by omega, fun _ => by first | rfl | trivial, fun h => by omega, fun h => by omega⟩
        case measure => simp [intOf]
      · have e := key0 hx
        clear key0 key1 key2 key3 f0 f1 f2
        go_wp2
        go_ret
        exact ⟨by rw [e.out]; rfl, rfl⟩
    · have hx := f0.out (by omega)
      subst hx
      by_cases hy : y = 0
      · clear key0 key1 key2 key3 f0 f1 f2
        subst hy
        go_wp2
        go_round
        case rel => exact ⟨2, rfl, by omega, fun _ => by first | rfl | trivial, fun _ => by first | rfl | trivial, fun h => by omega⟩
        case measure => simp [intOf]
      · have e := key1 rfl hy
        clear key0 key1 key2 key3 f0 f1 f2
        go_wp2
        go_ret
        exact ⟨by rw [e.out]; rfl, rfl⟩
    · have hx := f0.out (by omega)
      subst hx
      have hy := f1.out (by omega)
      subst hy
      by_cases hz : z = 0
      · clear key0 key1 key2 key3 f0 f1 f2
        subst hz
        go_wp2
        go_round
        case rel => exact ⟨3, rfl, by omega, fun _ => by first | rfl | trivial, fun _ => by first | rfl | trivial, fun _ => by first | rfl | trivial⟩
        case measure => simp [intOf]
      · have e := key2 rfl rfl hz
        clear key0 key1 key2 key3 f0 f1 f2
        go_wp2
        go_ret
        exact ⟨by rw [e.out]; rfl, rfl⟩
    · have e := key3 (f0.out (by omega)) (f1.out (by omega)) (f2.out (by omega))
      clear key0 key1 key2 key3 f0 f1 f2
      go_wp2
      go_ret
      exact ⟨by rw [e.out]; rfl, rfl⟩

end Go.Proofs.Ytfjhiaafabmpbab
