/-
  WHAT IS LEFT OF SOME RISING LISTS, in a row that was cloned.
-/
import Derived.Test.YtbkldenjldejiaaCloneRows
import Derived.Test.YtbkldenjldejiaaRefPick
namespace Go.Proofs.Ytbkldenjldejiaa
open Go.ChangeShapes Go.WideShapes Go.ChangeAt Go.RowKit

/-- The row in block c: its first N cells are slices that hold what is left of each list; the numbers lie where they lay in w0. -/
structure Rests (w0 w : World) (c N : Nat) (Y : Nat → List Nat) : Prop where
  lies : ∃ cs, w.heap[c]? = some (.cells cs 22) ∧ N ≤ cs.size ∧ ∀ i, i < N → ∃ v, cs[i]? = some v ∧ Sl w0 v (ints (Y i))
  low : w0.heap.size ≤ c
theorem Rests.get {w0 w : World} {c N : Nat} {Y : Nat → List Nat} (h : Rests w0 w c N Y) (i : Nat) (hi : i < N) :
    ∃ a cap, w.cell? ⟨c, i, none⟩ = some (.slice a (Y i).length cap) ∧ w.frozen? ⟨c, i, none⟩ = false ∧ Sl w0 (.slice a (Y i).length cap) (ints (Y i)) := by
  obtain ⟨cs, hc, hN, hcs⟩ := h.lies
  obtain ⟨v, hv, hs⟩ := hcs i hi
  have hs2 := hs
  obtain ⟨a, cap, rfl, -⟩ := hs2
  rw [ints_len] at hv hs
  exact ⟨a, cap, by simp [World.cell?, hc, hv], by simp [World.frozen?, hc], hs⟩
theorem grownBy_set (w : World) (c i : Nat) (v : Value) : w.grownBy (w.setCell ⟨c, i, none⟩ v) (some c) :=
  ⟨rfl, rfl, rfl, by simp [World.setCell], fun k _ hne => by
    have : c ≠ k := fun e => hne (by rw [e])
    simp [World.setCell, Array.getElem?_modify, this]⟩
theorem Rests.set {w0 w : World} {c N : Nat} {Y : Nat → List Nat} (h : Rests w0 w c N Y) (i : Nat) (v : Value) (z : List Nat) (hv : Sl w0 v (ints z)) :
    Rests w0 (w.setCell ⟨c, i, none⟩ v) c N (fun j => if j = i then z else Y j) := by
  obtain ⟨cs, hc, hN, hcs⟩ := h.lies
  refine ⟨⟨cs.setIfInBounds i v, heap_set hc i v, by simpa using hN, fun j hj => ?_⟩, h.low⟩
  by_cases e : j = i
  · subst e
    refine ⟨v, ?_, by simpa using hv⟩
    simp [show j < cs.size by omega]
  · obtain ⟨u, hu, hs⟩ := hcs j hj
    refine ⟨u, ?_, by simpa [e] using hs⟩
    rw [Array.getElem?_setIfInBounds_ne (by omega)]
    exact hu
theorem Rests.grown {w0 w w' : World} {c N : Nat} {Y : Nat → List Nat} {row : Option Nat} (h : Rests w0 w c N Y) (hg : w.grownBy w' row) (hne : row ≠ some c) : Rests w0 w' c N Y := by
  obtain ⟨cs, hc, r⟩ := h.lies
  exact ⟨⟨cs, (hg.block c (Array.getElem?_eq_some_iff.1 hc).1 (fun e => hne e.symm)).trans hc, r⟩, h.low⟩
theorem Rests.congr {w0 w : World} {c N : Nat} {Y Z : Nat → List Nat} (h : Rests w0 w c N Y) (e : ∀ i, i < N → Y i = Z i) : Rests w0 w c N Z := by
  obtain ⟨cs, hc, hN, hcs⟩ := h.lies
  exact ⟨⟨cs, hc, hN, fun i hi => by rw [← e i hi]; exact hcs i hi⟩, h.low⟩
theorem rests_of {w0 w : World} {c k : Nat} {rows : List Value} {Y : Nat → List Nat} (h : w.ownsRow w0.heap.size 22 1 (.slice (some ⟨c, 0, none⟩) rows.length k) rows.length rows)
    (hY : ∀ i v, rows[i]? = some v → Sl w0 v (ints (Y i))) : Rests w0 w c rows.length Y := by
  obtain ⟨hl, h⟩ := h
  rcases h with ⟨h, _⟩ | ⟨g, cap, cur, e1, hg, hcell, h1, h2, h3, h4⟩
  · cases h
  · cases e1
    rw [Nat.mul_one] at h3 h4
    refine ⟨⟨cur, hcell, by omega, fun i hi => ?_⟩, hg⟩
    have hr : rows[i]? = some rows[i] := List.getElem?_eq_getElem hi
    refine ⟨rows[i], ?_, hY i _ hr⟩
    rw [← hr, ← Array.getElem?_toList]
    have : (cur.toList.take rows.length)[i]? = rows[i]? := by rw [h4]
    rw [List.getElem?_take_of_lt hi] at this
    exact this
end Go.Proofs.Ytbkldenjldejiaa
