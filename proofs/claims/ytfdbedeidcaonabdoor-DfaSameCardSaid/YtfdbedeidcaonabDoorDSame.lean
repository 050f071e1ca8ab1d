/-
  TWO AUTOMATA HELD AGAINST EACH OTHER: rows of symbols, by contract.
-/
import Derived.Test.YtfdbedeidcaonabDoorDfas
import Derived.Laws.StructEq
namespace Go.Proofs.YtfdbedeidcaonabDoor
open Go.ChangeShapes Go.WideShapes Go.ChangeAt Go.RowKit

theorem ba_ext {s t : ByteArray} (h : s.toList = t.toList) : s = t := by
  rw [Go.ByteArray.toList_eq, Go.ByteArray.toList_eq] at h
  exact ByteArray.ext (Array.ext' h)
/-- Elements that are the same, one by one. -/
def eqAll {α : Type} (f : α → α → Bool) (d : α) (xs ys : List α) : Bool := decide (xs.length = ys.length) && (List.range xs.length).all fun j => f (xs.getD j d) (ys.getD j d)
theorem eqAll_no {α : Type} {f : α → α → Bool} {d : α} {xs ys : List α} {k : Nat} (hk : k < xs.length) (h : f (xs.getD k d) (ys.getD k d) = false) : eqAll f d xs ys = false := by
  unfold eqAll
  by_cases hl : xs.length = ys.length
  · rw [decide_eq_true hl, Bool.true_and, List.all_eq_false]
    exact ⟨k, List.mem_range.2 hk, by rw [h]; simp⟩
  · rw [decide_eq_false hl]; rfl
theorem eqAll_len {α : Type} {f : α → α → Bool} {d : α} {xs ys : List α} (h : xs.length ≠ ys.length) : eqAll f d xs ys = false := by
  unfold eqAll; rw [decide_eq_false h]; rfl
theorem eqAll_all {α : Type} {f : α → α → Bool} {d : α} {xs ys : List α} (hl : xs.length = ys.length) (h : ∀ j, j < xs.length → f (xs.getD j d) (ys.getD j d) = true) : eqAll f d xs ys = true := by
  unfold eqAll
  rw [decide_eq_true hl, Bool.true_and, List.all_eq_true]
  exact fun j hj => h j (List.mem_range.1 hj)
theorem eqAll_self {α : Type} {f : α → α → Bool} {d : α} (xs : List α) (h : ∀ x, f x x = true) : eqAll f d xs xs = true := eqAll_all rfl fun _ _ => h _
def symEq (x y : Sy) : Bool := decide (x.s.toList = y.s.toList ∧ x.b = y.b)
theorem symEq_self (x : Sy) : symEq x x = true := by simp [symEq]
set_option maxHeartbeats 3200000 in
set_option maxRecDepth 100000 in
theorem symsame_c (va vb : Value) (xs ys : List Sy) (w : World) (hva : HoldsR symR w va xs) (hvb : HoldsR symR w vb ys) (hx : xs.length ≤ 1000) :
    Calls Tryd.prog 16 #[va, vb] w fun e w' => e = .returned (.bool (eqAll symEq Sy.none xs ys)) ∧ Below w.heap.size w w' := by
  obtain ⟨a, cap, rfl, hra⟩ := hva
  obtain ⟨b, cap', rfl, hrb⟩ := hvb
  by_cases hl : xs.length = ys.length
  · have hl1 : ((xs.length : Int) != (ys.length : Int)) = false := by simp [hl]
    replace hl := hidden hl
    go_enter Tryd.func16, Tryd.ntmps16
    go_wp2
    go_loopw [13] (fun i wr => ∃ k : Nat, k ≤ xs.length ∧ i = .int .i64 k ∧ Hid (∀ j, j < k → symEq (xs.getD j Sy.none) (ys.getD j Sy.none) = true) ∧ Hid (Below w.heap.size w wr))
      (fun i _ => xs.length - (intOf i).toNat)
    case atStart => exact ⟨0, Nat.zero_le _, rfl, fun j hj => by omega, Below.refl _ _⟩
    case round =>
      clear hl1
      obtain ⟨k, hk, rfl, ht, hnx⟩ := hrel
      by_cases hlt : k < xs.length
      · have hlt2 : k < ys.length := by have := hl.out; omega
        obtain ⟨b1, o1, rfl, hb1, c0, c1⟩ := sym_at (hra.below hnx.out) hlt
        obtain ⟨b2, o2, rfl, hb2, d0, d1⟩ := sym_at (hrb.below hnx.out) hlt2
        have hno := hidden fun h => eqAll_no (f := symEq) (d := Sy.none) (xs := xs) (ys := ys) (k := k) hlt h
        have hok : Hid (symEq (xs.getD k Sy.none) (ys.getD k Sy.none) = true → ∀ j, j < k + 1 → symEq (xs.getD j Sy.none) (ys.getD j Sy.none) = true) := fun h j hj => by
          rcases Nat.lt_or_ge j k with h2 | h2
          · exact ht.out j h2
          · obtain rfl : j = k := by omega
            exact h
        generalize xs.getD k Sy.none = x at *
        generalize ys.getD k Sy.none = y at *
        obtain ⟨s, p⟩ := x
        obtain ⟨t, q⟩ := y
        simp only at c0 c1 d0 d1
        replace hra := hidden hra
        replace hrb := hidden hrb
        have hj1 : (k : Int) < (xs.length : Int) := by omega
        have hj2 : (k : Int) < (ys.length : Int) := by omega
        by_cases e1 : s.toList = t.toList ∧ p = q
        · obtain ⟨e1, rfl⟩ := e1
          obtain rfl := ba_ext e1
          have hok2 := hidden (hok.out (symEq_self _))
          clear hok hno e1
          go_wp2
          go_quiet (fail)
          go_wp2
          go_roundw
          case rel => exact ⟨k + 1, by omega, by go_num, hok2, by first | exact hnx.out.drew | exact below_drewN hnx.out _⟩
          case measure => simp [intOf]; omega
        · have hno2 : Hid (eqAll symEq Sy.none xs ys = false) := hno.out (decide_eq_false e1)
          clear hok hno
          by_cases e2 : s.toList = t.toList
          · have e3 : ¬ p = q := fun h => e1 ⟨e2, h⟩
            obtain rfl := ba_ext e2
            have g3 : (p == q) = false := by simpa using e3
            clear e1 e2
            go_wp2
            go_quiet (fail)
            go_wp2
            go_ret
            exact ⟨by rw [hno2.out]; first | done | rfl, by first | exact hnx.out.drew | exact below_drewN hnx.out _⟩
          · have g3 : (s.toList == t.toList) = false := by simpa using e2
            clear e1
            go_wp2
            go_quiet (fail)
            go_wp2
            go_ret
            exact ⟨by rw [hno2.out]; first | done | rfl, by first | exact hnx.out.drew | exact below_drewN hnx.out _⟩
      · have hall := hidden (eqAll_all (f := symEq) (d := Sy.none) hl.out fun j hj => ht.out j (by omega))
        clear ht
        go_wp2
        go_ret
        exact ⟨by rw [hall.out]; first | done | rfl, hnx.out⟩
  · have e := hidden (eqAll_len (f := symEq) (d := Sy.none) hl)
    have hl' : ((xs.length : Int) != (ys.length : Int)) = true := by simp; omega
    go_enter Tryd.func16, Tryd.ntmps16
    go_wp2
    go_ret
    exact ⟨by rw [e.out]; first | done | rfl, Below.refl _ _⟩
end Go.Proofs.YtfdbedeidcaonabDoor
