/-
  WHAT IS WRONG OF A GRAPH FIRST. Mathematics alone.
-/
import Derived.Test.YtnecfgmbfkocnahDoorGraphs
import Derived.Test.YtnecfgmbfkocnahDoorCharsV
namespace Go.Proofs.YtnecfgmbfkocnahDoor
open Go.ChangeShapes Go.WideShapes Go.ChangeAt Go.RowKit

def nameB (s : ByteArray) : Bool := decide (nameS s)
def badP (p : Pp) : Bool := !nameB p.s || (!goodV p.k p.n p.t || decide (p.k = 0))
def sameP (ps : List Pp) (i j : Nat) : Bool := (ps.getD i Pp.none).s.toList == (ps.getD j Pp.none).s.toList
def dupTo (ps : List Pp) (m : Nat) : Bool := (List.range m).any fun i => (List.range i).any fun j => sameP ps i j
def nodeE (x : Nd) : Int := if nameB x.l then (if x.ps.any badP then 2 else if 8 < x.ps.length then 5 else if dupTo x.ps x.ps.length then 6 else 0) else 2
def edgeE (n : Nat) (x : Eg) : Int := if nameB x.l then (if x.f < 0 ∨ (n : Int) ≤ x.f ∨ x.t < 0 ∨ (n : Int) ≤ x.t ∨ x.w < 0 ∨ 1000000 < x.w then 1 else 0) else 2
/-- The first that is wrong, and how. -/
def firstE {α : Type} (f : α → Int) : List α → Nat → Option (Nat × Int)
  | [], _ => none
  | x :: xs, k => if f x = 0 then firstE f xs (k + 1) else some (k, f x)
theorem firstE_at {α : Type} {f : α → Int} (d : α) : ∀ {xs : List α} (s k : Nat), k < xs.length → (∀ j, j < k → f (xs.getD j d) = 0) → f (xs.getD k d) ≠ 0 → firstE f xs s = some (s + k, f (xs.getD k d))
  | x :: xs, s, 0, _, _, h => by
    have h' : ¬ f x = 0 := h
    simp [firstE, h']
  | x :: xs, s, k + 1, hk, ha, h => by
    have h0 : f x = 0 := ha 0 (by omega)
    have ih := firstE_at d (xs := xs) (s + 1) k (by simpa using hk) (fun j hj => by simpa using ha (j + 1) (by omega)) (by simpa using h)
    simp only [firstE, h0, if_true]
    rw [ih]
    simp; omega
theorem firstE_none {α : Type} {f : α → Int} (d : α) : ∀ {xs : List α} (s : Nat), (∀ j, j < xs.length → f (xs.getD j d) = 0) → firstE f xs s = none
  | [], _, _ => rfl
  | x :: xs, s, ha => by
    have h0 : f x = 0 := ha 0 (by simp)
    simp only [firstE, h0, if_true]
    exact firstE_none d (xs := xs) (s + 1) fun j hj => by simpa using ha (j + 1) (by simpa using hj)
def checkG (g : Gr) : Int × Int := match firstE nodeE g.ns 0 with
  | some (i, c) => ((i : Int) + 1, c)
  | none => match firstE (edgeE g.ns.length) g.es 0 with
    | some (i, c) => ((g.ns.length : Int) + i + 1, c)
    | none => (0, 0)
theorem checkG_node {g : Gr} (k : Nat) (hk : k < g.ns.length) (ha : ∀ j, j < k → nodeE (g.ns.getD j Nd.none) = 0) (h : nodeE (g.ns.getD k Nd.none) ≠ 0) : checkG g = ((k : Int) + 1, nodeE (g.ns.getD k Nd.none)) := by
  unfold checkG
  rw [firstE_at Nd.none 0 k hk ha h]
  simp
theorem checkG_edge {g : Gr} (hn : ∀ j, j < g.ns.length → nodeE (g.ns.getD j Nd.none) = 0) (k : Nat) (hk : k < g.es.length) (ha : ∀ j, j < k → edgeE g.ns.length (g.es.getD j Eg.none) = 0) (h : edgeE g.ns.length (g.es.getD k Eg.none) ≠ 0) : checkG g = ((g.ns.length : Int) + (k : Int) + 1, edgeE g.ns.length (g.es.getD k Eg.none)) := by
  unfold checkG
  rw [firstE_none Nd.none 0 hn, firstE_at Eg.none 0 k hk ha h]
  simp
theorem checkG_ok {g : Gr} (hn : ∀ j, j < g.ns.length → nodeE (g.ns.getD j Nd.none) = 0) (ha : ∀ j, j < g.es.length → edgeE g.ns.length (g.es.getD j Eg.none) = 0) : checkG g = (0, 0) := by
  unfold checkG
  rw [firstE_none Nd.none 0 hn, firstE_none Eg.none 0 ha]
theorem any_bad {ps : List Pp} {k : Nat} (hk : k < ps.length) (h : badP (ps.getD k Pp.none) = true) : ps.any badP = true := by
  rw [List.any_eq_true]
  have e : ps.getD k Pp.none = ps[k] := by simp [List.getD, hk]
  exact ⟨ps[k], List.getElem_mem _, by rw [← e]; exact h⟩
theorem none_bad {ps : List Pp} (h : ∀ j, j < ps.length → badP (ps.getD j Pp.none) = false) : ps.any badP = false := by
  rw [List.any_eq_false]
  intro x hx
  obtain ⟨j, hj, rfl⟩ := List.getElem_of_mem hx
  have := h j hj
  rw [show ps.getD j Pp.none = ps[j] by simp [List.getD, hj]] at this
  rw [this]; simp
theorem dup_at {ps : List Pp} {m i j : Nat} (hi : i < m) (hj : j < i) (h : sameP ps i j = true) : dupTo ps m = true := by
  unfold dupTo
  rw [List.any_eq_true]
  refine ⟨i, List.mem_range.2 hi, ?_⟩
  rw [List.any_eq_true]
  exact ⟨j, List.mem_range.2 hj, h⟩
theorem dup_none {ps : List Pp} {m : Nat} (h : ∀ i, i < m → ∀ j, j < i → sameP ps i j = false) : dupTo ps m = false := by
  unfold dupTo
  rw [List.any_eq_false]
  intro i hi
  rw [Bool.not_eq_true, List.any_eq_false]
  intro j hj
  rw [h i (List.mem_range.1 hi) j (List.mem_range.1 hj)]; simp
theorem dup_succ (ps : List Pp) (m : Nat) : dupTo ps (m + 1) = (dupTo ps m || (List.range m).any fun j => sameP ps m j) := by
  unfold dupTo
  rw [List.range_succ, List.any_append]
  simp
theorem any_range_succ (f : Nat → Bool) (m : Nat) : ((List.range (m + 1)).any f) = ((List.range m).any f || f m) := by
  rw [List.range_succ, List.any_append]
  simp
end Go.Proofs.YtnecfgmbfkocnahDoor
