/-
  WHAT SOME RISING LISTS HAVE IN COMMON: mathematics alone.
-/
import Derived.Test.YtbkldenjldejiaaComRows
namespace Go.Proofs.Ytbkldenjldejiaa

/-- Whether all of the lists have a number. -/
def rowF (q : Nat → Nat → Bool) (N : Nat) (x : Nat) : Bool := (List.range N).all fun i => q i x
theorem rowF_true {q : Nat → Nat → Bool} {N x : Nat} : rowF q N x = true ↔ ∀ i, i < N → q i x = true := by simp [rowF]
theorem rowF_false {q : Nat → Nat → Bool} {N x i : Nat} (hi : i < N) (h : q i x = false) : rowF q N x = false := by
  rw [Bool.eq_false_iff]
  intro h2
  have := rowF_true.1 h2 i hi
  rw [h] at this; cases this
theorem L_rise {p : Nat → Bool} {j k : Nat} (h : j < k) (hk : k < (L p).length) : (L p).getD j 0 < (L p).getD k 0 := by
  have hs : (L p).Pairwise (· < ·) := List.Pairwise.filter _ List.pairwise_lt_range
  rw [List.getD_eq_getElem?_getD, List.getD_eq_getElem?_getD, List.getElem?_eq_getElem hk, List.getElem?_eq_getElem (by omega)]
  exact List.pairwise_iff_getElem.1 hs j k (by omega) hk h
/-- What is dropped of each list lies below all that is to come. -/
def Lows (Y : Nat → List Nat) (N : Nat) (d : Nat → Nat) (X : List Nat) (k : Nat) : Prop :=
  ∀ i, i < N → d i ≤ (Y i).length ∧ ∀ j, j < d i → ∀ k', k ≤ k' → k' < X.length → (Y i).getD j 0 < X.getD k' 0
theorem Lows.next {Y : Nat → List Nat} {N : Nat} {d : Nat → Nat} {X : List Nat} {k : Nat} (h : Lows Y N d X k) : Lows Y N d X (k + 1) :=
  fun i hi => ⟨(h i hi).1, fun j hj k' hk => (h i hi).2 j hj k' (by omega)⟩
theorem Lows.more {q : Nat → Nat → Bool} {N : Nat} {d : Nat → Nat} {p : Nat → Bool} {k : Nat} (h : Lows (fun i => L (q i)) N d (L p) k) (i : Nat) (hd : d i < (L (q i)).length) (hlt : (L (q i)).getD (d i) 0 < (L p).getD k 0) :
    Lows (fun i => L (q i)) N (fun j => if j = i then d i + 1 else d j) (L p) k := by
  intro i' hi'
  by_cases e : i' = i
  · subst e
    refine ⟨by simp; omega, fun j hj k' h1 h2 => ?_⟩
    simp only [if_true] at hj
    by_cases hj2 : j < d i'
    · exact (h i' hi').2 j hj2 k' h1 h2
    · obtain rfl : j = d i' := by omega
      rcases Nat.eq_or_lt_of_le h1 with rfl | h1
      · exact hlt
      · exact Nat.lt_trans hlt (L_rise h1 h2)
  · simp only [e, if_false]
    exact h i' hi'
theorem Lows.place {q : Nat → Nat → Bool} {N : Nat} {d : Nat → Nat} {X : List Nat} {k i : Nat} (h : Lows (fun i => L (q i)) N d X k) (hk : k < X.length) (hi : i < N) (hend : d i < (L (q i)).length → X.getD k 0 ≤ (L (q i)).getD (d i) 0) :
    Place (L (q i)) ((X.getD k 0 : Nat) : Int) (d i) :=
  ⟨(h i hi).1, fun j hj => by have : (L (q i)).getD j 0 < X.getD k 0 := (h i hi).2 j hj k (Nat.le_refl _) hk; omega, fun hd => by have := hend hd; omega⟩
theorem place_yes {q : Nat → Bool} {x j : Nat} (hx : x < 65536) (h : Place (L q) (x : Int) j) (hj : j < (L q).length) (he : (L q).getD j 0 = x) : q x = true := by
  rw [← isAt_in hx h]
  unfold isAt
  rw [he, decide_eq_true hj]
  simp
theorem place_no {q : Nat → Bool} {x j : Nat} (hx : x < 65536) (h : Place (L q) (x : Int) j) (he : (L q).getD j 0 ≠ x) : q x = false := by
  rw [← isAt_in hx h]
  have : ¬ (((L q).getD j 0 : Nat) : Int) = (x : Int) := by omega
  unfold isAt
  rw [decide_eq_false this, Bool.and_false]
theorem filter_snoc (X : List Nat) (F : Nat → Bool) (k : Nat) (hk : k < X.length) : (X.take (k + 1)).filter F = (X.take k).filter F ++ (if F (X.getD k 0) then [X.getD k 0] else []) := by
  rw [take_snocN _ _ hk, List.filter_append]
  generalize X.getD k 0 = x
  cases h : F x <;> simp [h]
theorem filter_done {q : Nat → Nat → Bool} {N : Nat} {d : Nat → Nat} {p : Nat → Bool} {k i : Nat} (h : Lows (fun i => L (q i)) N d (L p) k) (hi : i < N) (hd : (L (q i)).length ≤ d i) :
    ((L p).take k).filter (rowF q N) = (L p).filter (rowF q N) := by
  have e : ((L p).drop k).filter (rowF q N) = [] := by
    rw [List.filter_eq_nil_iff]
    intro x hx hF
    obtain ⟨m, hm, rfl⟩ := List.getElem_of_mem hx
    rw [List.length_drop] at hm
    rw [List.getElem_drop] at hF
    have hkm : k + m < (L p).length := by omega
    have hg : (L p).getD (k + m) 0 = (L p)[k + m] := by rw [List.getD_eq_getElem?_getD, List.getElem?_eq_getElem hkm]; rfl
    have hq := rowF_true.1 hF i hi
    have hx2 : (L p)[k + m] ∈ L (q i) := mem_L.2 ⟨(mem_L.1 (List.getElem_mem hkm)).1, hq⟩
    obtain ⟨j, hj, hje⟩ := List.getElem_of_mem hx2
    have := (h i hi).2 j (by omega) (k + m) (by omega) hkm
    rw [hg, List.getD_eq_getElem?_getD, List.getElem?_eq_getElem hj, Option.getD_some, hje] at this
    exact absurd this (Nat.lt_irrefl _)
  have := congrArg (List.filter (rowF q N)) (List.take_append_drop k (L p))
  rw [List.filter_append, e, List.append_nil] at this
  exact this
/-- What the lists' walk needs to know. -/
structure Com (X : List Nat) (Y : Nat → List Nat) (N : Nat) (F : Nat → Bool) (q : Nat → Nat → Bool) : Prop where
  lenX : X.length ≤ 65536
  lenY : ∀ i, (Y i).length ≤ 65536
  more : ∀ d k i, Lows Y N d X k → d i < (Y i).length → (Y i).getD (d i) 0 < X.getD k 0 → Lows Y N (fun j => if j = i then d i + 1 else d j) X k
  done : ∀ d k i, Lows Y N d X k → i < N → (Y i).length ≤ d i → (X.take k).filter F = X.filter F
  yes : ∀ d k i, Lows Y N d X k → k < X.length → i < N → d i < (Y i).length → (Y i).getD (d i) 0 = X.getD k 0 → q i (X.getD k 0) = true
  no : ∀ d k i, Lows Y N d X k → k < X.length → i < N → X.getD k 0 < (Y i).getD (d i) 0 → F (X.getD k 0) = false
  all : ∀ x, (∀ i, i < N → q i x = true) → F x = true
theorem com_of (p : Nat → Bool) (q : Nat → Nat → Bool) (N : Nat) : Com (L p) (fun i => L (q i)) N (rowF q N) q where
  lenX := L_len p
  lenY := fun i => L_len _
  more := fun _ _ i h hd hlt => h.more i hd hlt
  done := fun _ _ _ h hi hd => filter_done h hi hd
  yes := fun _ _ i h hk hi hd he => place_yes (L_getD hk) (h.place hk hi (fun _ => Nat.le_of_eq he.symm)) hd he
  no := fun _ _ i h hk hi hlt => rowF_false hi (place_no (L_getD hk) (h.place hk hi (fun _ => Nat.le_of_lt hlt)) (by omega))
  all := fun _ h => rowF_true.2 h
end Go.Proofs.Ytbkldenjldejiaa
