/-
  TWO RISING LISTS TOGETHER, AND THOSE OF ONE THAT ARE IN THE OTHER OR ARE NOT, as the reference makes them: by contract.
-/
import Derived.Test.YtbkldenjldejiaaRefPut
namespace Go.Proofs.Ytbkldenjldejiaa
open Go.ChangeShapes Go.WideShapes Go.ChangeAt Go.RowKit

theorem L_congr_on {p q : Nat → Bool} (h : ∀ k, k < 65536 → p k = q k) : L p = L q := List.filter_congr fun k hk => h k (List.mem_range.1 hk)
theorem take_snocN (ys : List Nat) (j : Nat) (hj : j < ys.length) : ys.take (j + 1) = ys.take j ++ [ys.getD j 0] := by
  rw [List.take_add_one, List.getElem?_eq_getElem hj]; simp [List.getD, hj]
theorem contains_L (q : Nat → Bool) (k : Nat) (hk : k < 65536) : (L q).contains k = q k := by
  rw [Bool.eq_iff_iff, List.contains_iff_mem, mem_L]
  exact ⟨fun h => h.2, fun h => ⟨hk, h⟩⟩
theorem L_getD {q : Nat → Bool} {j : Nat} (hj : j < (L q).length) : (L q).getD j 0 < 65536 := by
  have e : (L q).getD j 0 = (L q)[j] := by rw [List.getD_eq_getElem?_getD, List.getElem?_eq_getElem hj]; rfl
  rw [e]; exact (mem_L.1 (List.getElem_mem hj)).1
theorem or_more (p : Nat → Bool) (ys : List Nat) (j : Nat) (hj : j < ys.length) (hy : ys.getD j 0 < 65536) :
    (L fun k => (p k || (ys.take j).contains k) || (good ((ys.getD j 0 : Nat) : Int) && k == (((ys.getD j 0 : Nat) : Int)).toNat)) = L fun k => p k || (ys.take (j + 1)).contains k := by
  have hg : good ((ys.getD j 0 : Nat) : Int) = true := by
    simp only [good, Bool.and_eq_true, decide_eq_true_eq]; omega
  rw [take_snocN _ _ hj, hg]
  apply L_congr
  intro k
  rw [Int.toNat_natCast, Bool.true_and]
  clear hy hg
  generalize ys.getD j 0 = y
  generalize ys.take j = t
  rw [Bool.or_assoc]
  congr 1
  rw [Bool.eq_iff_iff]
  simp
/-- One more of the other list. -/
theorem or_step (p q : Nat → Bool) (j : Nat) (hj : j < (L q).length) :
    (L fun k => (p k || ((L q).take j).contains k) || (good (((L q).getD j 0 : Nat) : Int) && k == ((((L q).getD j 0 : Nat) : Int)).toNat)) = L fun k => p k || ((L q).take (j + 1)).contains k :=
  or_more p (L q) j hj (L_getD hj)
theorem or_end (p q : Nat → Bool) : (L fun k => p k || ((L q).take (L q).length).contains k) = L fun k => p k || q k := by
  rw [List.take_length]
  exact L_congr_on fun k hk => by rw [contains_L q k hk]
theorem or_zero (p q : Nat → Bool) : (L fun k => p k || ((L q).take 0).contains k) = L p := L_congr fun k => by rw [List.take_zero]; simp
end Go.Proofs.Ytbkldenjldejiaa
