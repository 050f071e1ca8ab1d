/-
  ITEMS HELD AGAINST EACH OTHER: what HeapOrder's law wants of their order; and heap.Same, by contract.
-/
import Derived.Test.YthjmgahgfkecfacISame
namespace Go.Proofs.Ythjmgahgfkecfac
open Go.ChangeShapes Go.WideShapes Go.ChangeAt Go.RowKit

theorem cmpI_anti (a b : Int) : cmpI b a = -cmpI a b := by
  unfold cmpI
  by_cases h1 : a < b
  · rw [if_pos h1, if_neg (by omega), if_pos h1]; rfl
  · by_cases h2 : b < a
    · rw [if_pos h2, if_neg h1, if_pos h2]
    · rw [if_neg h2, if_neg h1, if_neg h1, if_neg h2]; rfl
theorem cmpI_self (a : Int) : cmpI a a = 0 := by simp [cmpI]
theorem lcmp_anti : ∀ xs ys : List Int, lcmp ys xs = -lcmp xs ys
  | [], [] => rfl
  | [], _ :: _ => rfl
  | _ :: _, [] => rfl
  | a :: x, b :: y => by
    simp only [lcmp]
    by_cases h1 : a < b
    · rw [if_pos h1, if_neg (by omega), if_pos h1]; rfl
    · by_cases h2 : b < a
      · rw [if_pos h2, if_neg h1, if_pos h2]
      · rw [if_neg h2, if_neg h1, if_neg h1, if_neg h2]; exact lcmp_anti x y
theorem lcmp_self : ∀ xs : List Int, lcmp xs xs = 0
  | [] => rfl
  | a :: x => by simp [lcmp, lcmp_self x]
theorem orS_anti (x y z : Int) : orS (-x) (-y) (-z) = -orS x y z := by
  unfold orS
  by_cases h1 : x = 0
  · subst h1
    by_cases h2 : y = 0
    · subst h2; simp
    · rw [if_pos (by rfl), if_neg (by omega), if_pos rfl, if_neg h2]
  · rw [if_neg (by omega), if_neg h1]
/-- Which of two items stands first, the other way round. -/
theorem icmp_anti (x y : It) : icmp y x = -icmp x y := by
  unfold icmp
  rw [cmpI_anti x.c y.c, cmpI_anti x.p y.p, cmpI_anti x.r y.r, lcmp_anti x.l y.l, orS_anti]
  by_cases h : cmpI x.c y.c = 0
  · rw [if_pos (by rw [h]; rfl), if_pos h]
  · rw [if_neg (by omega), if_neg h]
theorem icmp_self (x : It) : icmp x x = 0 := by
  simp [icmp, cmpI_self, lcmp_self, orS]
theorem isame_self (xs : List It) : isame xs xs = true := isame_all rfl fun _ _ => icmp_self _
theorem few_few (y : It) (m : Nat) : (y.few m).few m = y.few m := by
  simp [It.few, List.take_take]
theorem few_len (y : It) (m : Nat) : (y.few m).l.length ≤ m := by
  simp [It.few]; omega
/-- Items cut, and cut again. -/
theorem items_twice (ys : List It) (m k : Nat) : (((ys.take m).map fun y => y.few k).take m).map (fun y => y.few k) = (ys.take m).map fun y => y.few k := by
  rw [← List.map_take, List.take_take, Nat.min_self, List.map_map]
  exact List.map_congr_left fun y _ => few_few y k
/-- Items and one more, cut and cut again. -/
theorem items_more (ys : List It) (x : It) : ((((ys.take 5).map fun y => y.few 5) ++ [(x.few 5).few 5]).take 6).map (fun y => y.few 5) = ((ys.take 5).map fun y => y.few 5) ++ [(x.few 5).few 5] := by
  rw [List.take_of_length_le (by simp; omega), List.map_append, List.map_map]
  congr 1
  · exact List.map_congr_left fun y _ => few_few y 5
  · simp [few_few]
theorem few_all {ys : List It} {m : Nat} (k : Nat) (hk : k < (ys.map fun y => y.few m).length) : ((ys.map fun y => y.few m).getD k It.none).l.length ≤ m := by
  have e : (ys.map fun y => y.few m).getD k It.none = (ys.map fun y => y.few m)[k] := by rw [List.getD, List.getElem?_eq_getElem hk, Option.getD_some]
  rw [e, List.getElem_map]
  exact few_len _ m
set_option maxHeartbeats 1600000 in
set_option maxRecDepth 1000000 in
theorem heapsame_c (va vb : Value) (xs ys : List It) (w : World) (hva : HoldsIL w va xs) (hvb : HoldsIL w vb ys) (hx : xs.length ≤ 17592186044416) (hy : ys.length ≤ 17592186044416)
    (hxl : ∀ k, k < xs.length → (xs.getD k It.none).l.length ≤ 17592186044416) (hyl : ∀ k, k < ys.length → (ys.getD k It.none).l.length ≤ 17592186044416) :
    Calls Try.prog 8 #[va, vb] w fun e w' => e = .returned (.bool (isame xs ys)) ∧ Below w.heap.size w w' := by
  have hcall := hsame_c va vb xs ys w hva hvb hx hy hxl hyl
  generalize isame xs ys = t at *
  clear hva hvb hx hy hxl hyl
  go_enter Try.func8, Try.ntmps8
  go_wp2_with fail
  refine hcall.mono ?_
  rintro e w1 ⟨rfl, hB⟩
  go_wp2
  go_ret
  exact ⟨rfl, hB⟩
end Go.Proofs.Ythjmgahgfkecfac
