/-
  A WORLD THAT DREW AND HAS BLOCKS BEHIND WHAT WAS. No function is named here.
-/
import Derived.Test.YtjgddkbpfpgaoafDoorRFew2
import Derived.Sort.Grow
import Derived.Deep.Draws
import Derived.StillTailTactics
import Derived.Laws.Cover1
namespace Go.Proofs.YtjgddkbpfpgaoafDoor
open Go.ChangeShapes Go.WideShapes Go.ChangeAt Go.RowKit Go.Sort

/-- Draws, and blocks behind what was. -/
def Laid (w w' : World) : Prop := ∃ q os, w' = grow (w.drewN q) os
theorem Laid.refl (w : World) : Laid w w := ⟨0, #[], by simp [grow, World.drewN]⟩
theorem Laid.drew {w x : World} (h : Laid w x) : Laid w x.drew := by
  obtain ⟨q, os, rfl⟩ := h
  exact ⟨q + 1, os, rfl⟩
theorem Laid.alloc {w x : World} (h : Laid w x) (o : Obj) : Laid w (x.alloc o) := by
  obtain ⟨q, os, rfl⟩ := h
  exact ⟨q, os ++ #[o], by rw [alloc_eq_grow, grow_grow]⟩
theorem Laid.below {w x : World} (h : Laid w x) : Below w.heap.size w x := by
  obtain ⟨q, os, rfl⟩ := h
  refine ⟨rfl, rfl, rfl, ?_, fun k hk => ?_⟩
  · simp [grow, World.drewN]
  · simp [grow, World.drewN, Array.getElem?_append_left hk]
end Go.Proofs.YtjgddkbpfpgaoafDoor
/-
  STEPS HELD AGAINST EACH OTHER: the program's order, by contract.
-/
namespace Go.Proofs.YtjgddkbpfpgaoafDoor
open Go.ChangeShapes Go.WideShapes Go.ChangeAt Go.RowKit

theorem less_tri : ∀ x y : List UInt8, Op.bytesLess x y = false → Op.bytesLess y x = false → x = y
  | [], [], _, _ => rfl
  | [], _ :: _, h, _ => by simp [Op.bytesLess] at h
  | _ :: _, [], _, h => by simp [Op.bytesLess] at h
  | a :: x, b :: y, h1, h2 => by
    simp only [Op.bytesLess, Bool.or_eq_false_iff, Bool.and_eq_false_iff, decide_eq_false_iff_not, beq_eq_false_iff_ne] at h1 h2
    obtain ⟨h3, h4⟩ := h1
    obtain ⟨h5, h6⟩ := h2
    have e : a = b := UInt8.le_antisymm (UInt8.not_lt.1 h5) (UInt8.not_lt.1 h3)
    subst e
    rw [less_tri x y (by rcases h4 with h | h; exact absurd rfl h; exact h) (by rcases h6 with h | h; exact absurd rfl h; exact h)]
theorem less_irrefl : ∀ x : List UInt8, Op.bytesLess x x = false
  | [] => rfl
  | a :: x => by simp [Op.bytesLess, less_irrefl x]
theorem less_asymm : ∀ x y : List UInt8, Op.bytesLess x y = true → Op.bytesLess y x = false
  | [], [], h => by simp [Op.bytesLess] at h
  | [], _ :: _, _ => by simp [Op.bytesLess]
  | _ :: _, [], h => by simp [Op.bytesLess] at h
  | a :: x, b :: y, h => by
    simp only [Op.bytesLess, Bool.or_eq_true, Bool.and_eq_true, decide_eq_true_eq, beq_iff_eq] at h
    simp only [Op.bytesLess, Bool.or_eq_false_iff, Bool.and_eq_false_iff, decide_eq_false_iff_not, beq_eq_false_iff_ne]
    rcases h with h | ⟨rfl, h⟩
    · exact ⟨fun h' => absurd (UInt8.lt_trans h h') (UInt8.lt_irrefl a), .inl fun e => by subst e; exact UInt8.lt_irrefl _ h⟩
    · exact ⟨UInt8.lt_irrefl a, .inr (less_asymm x y h)⟩
def ltS (a b : ByteArray) : Bool := Op.bytesLess a.toList b.toList
def cmpS (a b : ByteArray) : Int := if ltS a b = true then -1 else if ltS b a = true then 1 else 0

theorem nans_c (a : ByteArray) (w : World) : Calls Tryd.prog 39 #[.string a] w fun e w' => e = .returned (.bool false) ∧ w' = w := by
  go_enter Tryd.func39, Tryd.ntmps39
  go_wp2
  go_ret
  exact ⟨rfl, rfl⟩
theorem cmps_c (a b : ByteArray) (w : World) : Calls Tryd.prog 22 #[.string a, .string b] w fun e w' => e = .returned (.int .i64 (cmpS a b)) ∧ w' = w := by
  have h := fun a w => nans_c a w
  have key : (Op.bytesLess a.toList b.toList = true ∧ Hid (cmpS a b = -1)) ∨ (Op.bytesLess a.toList b.toList = false ∧ (a.toList == b.toList) = false ∧ Hid (cmpS a b = 1)) ∨ (Op.bytesLess a.toList b.toList = false ∧ (a.toList == b.toList) = true ∧ Hid (cmpS a b = 0)) := by
    cases h1 : Op.bytesLess a.toList b.toList with
    | true => exact .inl ⟨rfl, by show _ = _; simp [cmpS, ltS, h1]⟩
    | false =>
      by_cases h2 : a.toList = b.toList
      · exact .inr (.inr ⟨rfl, by simp [h2], by show _ = _; simp [cmpS, ltS, h2, less_irrefl]⟩)
      · refine .inr (.inl ⟨rfl, by simp [h2], ?_⟩)
        cases h3 : Op.bytesLess b.toList a.toList with
        | true => show _ = _; simp [cmpS, ltS, h1, h3]
        | false => exact absurd (less_tri _ _ h1 h3) h2
  rcases key with ⟨h1, e⟩ | ⟨h1, h2, e⟩ | ⟨h1, h2, e⟩ <;> rw [e.out] <;> clear e <;>
  · go_enter Tryd.func22, Tryd.ntmps22
    go_wp2_with fail
    refine (h a w).mono ?_
    rintro e w ⟨rfl, rfl⟩
    go_wp2_with fail
    refine (h b _).mono ?_
    rintro e w ⟨rfl, rfl⟩
    go_wp2
    go_ret
    exact ⟨rfl, rfl⟩
/-- The first that is not 0. -/
def or2 (x y : Int) : Int := if x = 0 then y else x
theorem or2_c (x y : Int) (b : Nat) (w : World) {t : TypeId} (hb : w.heap[b]? = some (.cells #[.int .i64 x, .int .i64 y] t)) :
    Calls Tryd.prog 21 #[.slice (some ⟨b, 0, none⟩) 2 2] w fun e w' => e = .returned (.int .i64 (or2 x y)) ∧ w' = w := by
  have h0 : w.cell? ⟨b, 0, none⟩ = some (.int .i64 x) := by simp [World.cell?, hb]
  have h1 : w.cell? ⟨b, 1, none⟩ = some (.int .i64 y) := by simp [World.cell?, hb]
  clear hb
  have key0 : x ≠ 0 → Hid (or2 x y = x) := fun h => by show _ = _; simp [or2, h]
  have key1 : x = 0 → Hid (or2 x y = y) := fun h => by show _ = _; simp [or2, h]
  generalize or2 x y = r at *
  go_enter Tryd.func21, Tryd.ntmps21
  go_wp2_with fail
  go_loop [8] (fun i => ∃ k : Nat, i = .int .i64 k ∧ k ≤ 2 ∧ Hid (0 < k → x = 0) ∧ Hid (1 < k → y = 0)) (fun i => 2 - (intOf i).toNat)
  case atStart => exact ⟨0, rfl, Nat.zero_le _, fun h => by omega, fun h => by omega⟩
  case round =>
    obtain ⟨k, rfl, hk, f0, f1⟩ := hrel
    rcases (by omega : k = 0 ∨ k = 1 ∨ k = 2) with rfl | rfl | rfl
    · by_cases hx : x = 0
      · clear key0 key1 f0 f1
        have hx' : Hid (x = 0) := hx
        subst hx
        go_wp2
        go_round
        case rel => exact ⟨1, rfl, by omega, fun _ => by first | rfl | trivial, fun h => by omega⟩
        case measure => simp [intOf]
      · have e := key0 hx
        clear key0 key1 f0 f1
        go_wp2
        go_ret
        exact ⟨by rw [e.out]; rfl, rfl⟩
    · have hx := f0.out (by omega)
      have e := key1 hx
      subst hx
      by_cases hy : y = 0
      · clear key0 key1 f0 f1 e
        subst hy
        go_wp2
        go_round
        case rel => exact ⟨2, rfl, by omega, fun _ => by first | rfl | trivial, fun _ => by first | rfl | trivial⟩
        case measure => simp [intOf]
      · clear key0 key1 f0 f1
        go_wp2
        go_ret
        exact ⟨by rw [e.out]; rfl, rfl⟩
    · have hx := f0.out (by omega)
      have hy := f1.out (by omega)
      have e := key1 hx
      rw [hy] at e
      clear key0 key1 f0 f1 hx hy
      go_wp2
      go_ret
      exact ⟨by rw [e.out]; rfl, rfl⟩
abbrev Sy := ByteArray × Bool
def bcmp (p q : Bool) : Int := if p = q then 0 else if p = true then 1 else -1
/-- Which of two steps stands first. -/
def sycmp (x y : Sy) : Int := or2 (cmpS x.1 y.1) (bcmp x.2 y.2)
theorem two_boxesS (w : World) (a b : Array Value) (t u : TypeId) :
    ((w.alloc (.cells a t)).alloc (.cells b u)).heap[w.heap.size]? = some (.cells a t) ∧ ((w.alloc (.cells a t)).alloc (.cells b u)).heap[w.heap.size + 1]? = some (.cells b u) ∧ Below w.heap.size w ((w.alloc (.cells a t)).alloc (.cells b u)) := by
  refine ⟨?_, ?_, ((Below.refl _ _).alloc (Nat.le_refl _) _).alloc (by show _ ≤ (w.heap.push _).size; simp) _⟩
  · show ((w.heap.push _).push _)[_]? = _
    simp [Array.getElem?_push]
  · show ((w.heap.push _).push _)[_]? = _
    rw [Array.getElem?_push, if_pos (by simp)]
theorem box2f {x : World} {b : Nat} {c0 c1 : Value} {t : TypeId} (h : x.heap[b]? = some (.cells #[c0, c1] t)) : (x.cell? ⟨b, 0, none⟩ = some c0 ∧ x.cell? ⟨b, 1, none⟩ = some c1) ∧ x.frozen? ⟨b, 0, none⟩ = false ∧ x.frozen? ⟨b, 1, none⟩ = false := by
  simp [World.cell?, World.frozen?, h]
set_option maxHeartbeats 1600000 in
set_option maxRecDepth 100000 in
theorem sycmp_c (x y : Sy) (w : World) : Calls Tryd.prog 12 #[.agg #[.string x.1, .bool x.2], .agg #[.string y.1, .bool y.2]] w fun e w' => e = .returned (.int .i64 (sycmp x y)) ∧ Laid w w' := by
  obtain ⟨a, p⟩ := x
  obtain ⟨b, q⟩ := y
  obtain ⟨hA, hA', hB⟩ := two_boxesS w #[.string a, .bool p] #[.string b, .bool q] 23 23
  obtain ⟨w2, hw2⟩ : ∃ w2, Hid (w2 = (w.alloc (.cells #[.string a, .bool p] 23)).alloc (.cells #[.string b, .bool q] 23)) := ⟨_, hidden rfl⟩
  rw [← hw2.out] at hA hA'
  have hB : Laid w w2 := by rw [hw2.out]; exact ((Laid.refl _).alloc _).alloc _
  obtain ⟨⟨b0, b1⟩, -⟩ := box2f hA
  obtain ⟨⟨c0, c1⟩, -⟩ := box2f hA'
  have hB0 : Hid _ := hidden hB
  have hc := fun x => cmps_c a b x
  have ho := fun x y b w t h => @or2_c x y b w t h
  clear hA hA' hB
  generalize hcv : cmpS a b = cv at *
  replace hcv := hidden hcv
  cases p <;> cases q
  all_goals
    go_enter Tryd.func12, Tryd.ntmps12
    go_wp2_with fail
    rw [← hw2.out]
    go_wp2_with (first
      | (go_at_call 22; refine (hc _).mono ?_; rintro e z ⟨rfl, rfl⟩)
      | (go_at_call 21; refine (ho _ _ _ _ _ (heap_alloc_new _ _)).mono ?_; rintro e z ⟨rfl, rfl⟩)
      | fail)
    go_wp2
    go_ret
    exact ⟨by show _ = _; rw [show sycmp _ _ = or2 (cmpS a b) _ from rfl, hcv.out]; rfl, hB0.out.alloc _⟩
end Go.Proofs.YtjgddkbpfpgaoafDoor
