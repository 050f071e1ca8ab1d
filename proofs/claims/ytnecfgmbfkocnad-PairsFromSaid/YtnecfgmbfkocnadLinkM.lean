/-
  LINKS BY WHERE THEY BEGIN: the mathematics.
-/
import Derived.Test.YtnecfgmbfkocnadLinkE
import Derived.Test.YtnecfgmbfkocnadLinkF
import Derived.Test.YtnecfgmbfkocnadLinkG
namespace Go.Proofs.Ytnecfgmbfkocnad
open Go.ChangeShapes Go.WideShapes Go.ChangeAt Go.RowKit

theorem low_low (p : Lk) : p.low.low = p.low := by
  unfold Lk.low
  by_cases h : 1000000000 < p.c <;> simp [h]
/-- Links, somewhat cut. -/
def fewL (ps : List Lk) : List Lk := (ps.take 25).map Lk.low
theorem fewL_len (ps : List Lk) : (fewL ps).length ≤ 25 := by simp [fewL, List.length_take]; omega
theorem fewL_twice (ps : List Lk) : fewL (fewL ps) = fewL ps := by
  have h := fewL_len ps
  show ((fewL ps).take 25).map Lk.low = _
  rw [List.take_of_length_le h]
  unfold fewL
  rw [List.map_map]
  exact List.map_congr_left fun p _ => low_low p
theorem rises_of_good {ps : List Lk} (h : GoodTo ps ps.length) : Rises ps := by
  intro i j hij hj
  induction j with
  | zero => obtain rfl : i = 0 := by omega
            exact Int.le_refl _
  | succ j ih =>
    rcases Nat.lt_or_ge i (j + 1) with h1 | h1
    · have a1 := ih (by omega) (by omega)
      have a2 := (h (j + 1) hj).2 (by omega)
      rw [show j + 1 - 1 = j from rfl] at a2
      have a3 := of_decide_eq_true a2
      omega
    · obtain rfl : i = j + 1 := by omega
      exact Int.le_refl _
theorem pairwise_of_rises {ps : List Lk} (h : Rises ps) : ps.Pairwise fun p q => p.a ≤ q.a := by
  rw [List.pairwise_iff_getElem]
  intro i j hi hj hij
  have := h i j (by omega) hj
  simpa [List.getD, hi, hj] using this
/-- A sorted list, compacted: it rises; its members are the same. -/
theorem compact_told (ts : List Int) (hs : ∀ i j, i ≤ j → j < ts.length → ts.toArray[i]! ≤ ts.toArray[j]!) : ∀ m, m ≤ ts.length →
    (Lib.compactUpTo ts.toArray m).Pairwise (· < ·) ∧ ∀ x, x ∈ Lib.compactUpTo ts.toArray m ↔ ∃ j, j < m ∧ ts.toArray[j]! = x
  | 0, _ => ⟨by simp [Lib.compactUpTo], fun x => by simp [Lib.compactUpTo]⟩
  | m + 1, hm => by
    obtain ⟨h1, h2⟩ := compact_told ts hs m (by omega)
    rw [Lib.compactUpTo_succ]
    by_cases hk : Lib.keeps ts.toArray m = true
    · rw [if_pos hk]
      refine ⟨?_, fun x => ?_⟩
      · rw [List.pairwise_append]
        refine ⟨h1, by simp, fun x hx y hy => ?_⟩
        obtain rfl : y = ts.toArray[m]! := by simpa using hy
        obtain ⟨j, hj, rfl⟩ := (h2 x).1 hx
        have hm0 : 0 < m := by omega
        have a1 := hs j (m - 1) (by omega) (by omega)
        have a2 := hs (m - 1) m (by omega) (by omega)
        have a3 : ts.toArray[m]! ≠ ts.toArray[m - 1]! := fun e => by
          have := Lib.keeps_neg hm0 e
          rw [this] at hk; cases hk
        omega
      · simp only [List.mem_append, List.mem_singleton, h2]
        constructor
        · rintro (⟨j, hj, rfl⟩ | rfl)
          · exact ⟨j, by omega, rfl⟩
          · exact ⟨m, by omega, rfl⟩
        · rintro ⟨j, hj, rfl⟩
          rcases Nat.lt_or_ge j m with h | h
          · exact .inl ⟨j, h, rfl⟩
          · obtain rfl : j = m := by omega
            exact .inr rfl
    · rw [if_neg hk, List.append_nil]
      refine ⟨h1, fun x => ?_⟩
      rw [h2]
      constructor
      · rintro ⟨j, hj, rfl⟩; exact ⟨j, by omega, rfl⟩
      · rintro ⟨j, hj, rfl⟩
        rcases Nat.lt_or_ge j m with h | h
        · exact ⟨j, h, rfl⟩
        · obtain rfl : j = m := by omega
          have hm0 : 0 < j := by
            rcases Nat.eq_zero_or_pos j with rfl | h
            · exact absurd (Lib.keeps_lt_one _ 0 (by omega)) hk
            · exact h
          have e : ts.toArray[j]! = ts.toArray[j - 1]! := by
            by_cases e : ts.toArray[j]! = ts.toArray[j - 1]!
            · exact e
            · exact absurd (Lib.keeps_pos e) hk
          exact ⟨j - 1, by omega, e.symm⟩
theorem ends_told (zs : List Int) : (endsOf zs).Pairwise (· < ·) ∧ ∀ x, x ∈ endsOf zs ↔ x ∈ zs := by
  have hsort : (zs.mergeSort fun x y => decide (x ≤ y)).Pairwise fun x y => decide (x ≤ y) = true :=
    List.pairwise_mergeSort (by intro a b c h1 h2; simp at *; omega) (by intro a b; simp; omega) zs
  have hmem : ∀ x, x ∈ (zs.mergeSort fun x y => decide (x ≤ y)) ↔ x ∈ zs := fun x => List.mem_mergeSort
  unfold endsOf
  generalize (zs.mergeSort fun x y => decide (x ≤ y)) = ts at *
  have hg : ∀ (k : Nat) (hk : k < ts.length), ts.toArray[k]! = ts[k] := fun k hk => by simp [hk]
  have hs : ∀ i j, i ≤ j → j < ts.length → ts.toArray[i]! ≤ ts.toArray[j]! := fun i j hij hj => by
    rw [hg i (by omega), hg j hj]
    rcases Nat.lt_or_ge i j with h | h
    · exact of_decide_eq_true (List.pairwise_iff_getElem.1 hsort i j (by omega) hj h)
    · obtain rfl : i = j := by omega
      exact Int.le_refl _
  obtain ⟨h1, h2⟩ := compact_told ts hs ts.length (Nat.le_refl _)
  refine ⟨h1, fun x => ?_⟩
  rw [← hmem, show Lib.compact ts = Lib.compactUpTo ts.toArray ts.length from rfl, h2]
  constructor
  · rintro ⟨j, hj, rfl⟩; rw [hg j hj]; exact List.getElem_mem _
  · intro hx
    obtain ⟨j, hj, rfl⟩ := List.mem_iff_getElem.1 hx
    exact ⟨j, hj, hg j hj⟩
theorem split_first : ∀ (ls : List Lk) (e : Int), (ls.Pairwise fun p q => p.a ≤ q.a) → (∀ p ∈ ls, e ≤ p.a) → ls = (ls.filter fun p => decide (p.a = e)) ++ ls.filter fun p => !decide (p.a = e)
  | [], _, _, _ => rfl
  | x :: ls, e, hs, hm => by
    rw [List.pairwise_cons] at hs
    have ih := split_first ls e hs.2 (fun p hp => hm p (by simp [hp]))
    by_cases hx : x.a = e
    · simp only [List.filter_cons, hx, decide_true, if_true, Bool.not_true, Bool.false_eq_true, if_false, List.cons_append]
      rw [← ih]
    · have h0 : ls.filter (fun p => decide (p.a = e)) = [] := by
        rw [List.filter_eq_nil_iff]
        intro p hp
        have := hs.1 p hp
        have := hm x (by simp)
        simp; omega
      rw [h0] at ih
      simp only [List.filter_cons, hx, decide_false, Bool.false_eq_true, if_false, Bool.not_false, if_true, h0, List.nil_append]
      rw [← (by simpa using ih : ls = ls.filter fun p => !decide (p.a = e))]
theorem all_ends : ∀ (E : List Int) (ls : List Lk), (ls.Pairwise fun p q => p.a ≤ q.a) → E.Pairwise (· < ·) → (∀ x, x ∈ E ↔ x ∈ ls.map Lk.a) → E.flatMap (fromL ls) = ls
  | [], ls, _, _, hm => by
    cases ls with
    | nil => rfl
    | cons x ls => exact absurd ((hm x.a).2 (by simp)) (by simp)
  | e :: E, ls, hs, hE, hm => by
    rw [List.pairwise_cons] at hE
    have hmin : ∀ p ∈ ls, e ≤ p.a := fun p hp => by
      have := (hm p.a).2 (List.mem_map.2 ⟨p, hp, rfl⟩)
      rcases List.mem_cons.1 this with h | h
      · omega
      · have := hE.1 _ h; omega
    have h1 := split_first ls e hs hmin
    have ih := all_ends E (ls.filter fun p => !decide (p.a = e)) (hs.sublist List.filter_sublist) hE.2 (fun x => by
      constructor
      · intro hx
        have hne := hE.1 x hx
        obtain ⟨p, hp, rfl⟩ := List.mem_map.1 ((hm x).1 (by simp [hx]))
        exact List.mem_map.2 ⟨p, List.mem_filter.2 ⟨hp, by simp; omega⟩, rfl⟩
      · intro hx
        obtain ⟨p, hp, rfl⟩ := List.mem_map.1 hx
        obtain ⟨hp1, hp2⟩ := List.mem_filter.1 hp
        rcases List.mem_cons.1 ((hm p.a).2 (List.mem_map.2 ⟨p, hp1, rfl⟩)) with h | h
        · simp [h] at hp2
        · exact h)
    rw [List.flatMap_cons]
    have e2 : E.flatMap (fromL ls) = E.flatMap (fromL (ls.filter fun p => !decide (p.a = e))) := by
      have hh : ∀ x ∈ E, fromL ls x = fromL (ls.filter fun p => !decide (p.a = e)) x := fun x hx => by
        have hne := hE.1 x hx
        unfold fromL
        rw [List.filter_filter]
        apply List.filter_congr
        intro p _
        by_cases hp : p.a = x
        · simp [hp]; omega
        · simp [hp]
      rw [List.flatMap_def, List.flatMap_def, List.map_congr_left hh]
    rw [e2, ih]
    exact h1.symm
theorem ends_all {ls : List Lk} (h : Rises ls) : (endsOf (ls.map Lk.a)).flatMap (fromL ls) = ls :=
  all_ends _ ls (pairwise_of_rises h) (ends_told _).1 (ends_told _).2
theorem from_some {ls : List Lk} {e : Int} (h : e ∈ endsOf (ls.map Lk.a)) : fromL ls e ≠ [] := fun h0 => by
  obtain ⟨p, hp, rfl⟩ := List.mem_map.1 (((ends_told _).2 e).1 h)
  have : p ∈ fromL ls p.a := List.mem_filter.2 ⟨hp, by simp⟩
  rw [h0] at this; cases this
end Go.Proofs.Ytnecfgmbfkocnad
