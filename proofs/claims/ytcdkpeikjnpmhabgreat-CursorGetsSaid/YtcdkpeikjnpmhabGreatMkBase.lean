/-
  MARKS: what they are made of. No function is named here.
-/
import Derived.Test.YtcdkpeikjnpmhabGreatOpenIL
import Derived.Test.YtcdkpeikjnpmhabGreatCalms
namespace Go.Proofs.YtcdkpeikjnpmhabGreat
open Go.ChangeShapes Go.WideShapes Go.ChangeAt Go.RowKit

theorem heap_setI {x : World} {b : Nat} {cs : Array Value} {t : TypeId} (h : x.heap[b]? = some (.cells cs t)) (j : Nat) (v : Value) : (x.setCell ⟨b, j, none⟩ v).heap[b]? = some (.cells (cs.setIfInBounds j v) t) := by
  simp [World.setCell, Array.getElem?_modify, h]
theorem heap_oI {x : World} {p : Addr} {v : Value} {b : Nat} (h : p.block ≠ b) : (x.setCell p v).heap[b]? = x.heap[b]? := by
  simp [World.setCell, Array.getElem?_modify, h]
theorem heap2_new (w : World) (a b : Obj) : ((w.alloc a).alloc b).heap[w.heap.size + 1]? = some b := by
  rw [show w.heap.size + 1 = (w.alloc a).heap.size by show _ = (w.heap.push a).size; simp]
  exact heap_alloc_new _ _
theorem heap2_old (w : World) (a b : Obj) : ((w.alloc a).alloc b).heap[w.heap.size]? = some a :=
  (heap_alloc_old _ _ (by show _ < (w.heap.push a).size; simp)).trans (heap_alloc_new _ _)
structure Mk where
  told : Int
  over : Bool
  nodes : List Int
  rest : Int
  items : List It
def mkV (m : Mk) (nv iv : Value) : Value := .agg #[.int .i64 m.told, .bool m.over, nv, .int .u64 m.rest, iv]

theorem act_norm (a : Act) (n : Nat) (hs : a.tmps.size = n) (hd : a.defers = []) : a = { tmps := ((List.range n).map fun t => a.tmps.getD t undef).toArray, defers := [] } := by
  obtain ⟨t, d⟩ := a
  simp only at hs hd
  subst hd
  congr 1
  apply Array.ext'
  apply List.ext_getElem?
  intro j
  by_cases hj : j < n
  · have h1 : j < t.size := by omega
    rw [Array.getElem?_toList, Array.getElem?_eq_getElem h1]
    simp [List.getElem?_range hj, Array.getD_eq_getD_getElem?, Array.getElem?_eq_getElem h1]
  · rw [Array.getElem?_toList, Array.getElem?_eq_none (by omega)]
    exact (List.getElem?_eq_none (by simp; omega)).symm
theorem range38 : List.range 38 = [0, 1, 2, 3, 4, 5, 6, 7, 8, 9, 10, 11, 12, 13, 14, 15, 16, 17, 18, 19, 20, 21, 22, 23, 24, 25, 26, 27, 28, 29, 30, 31, 32, 33, 34, 35, 36, 37] := rfl
theorem box5 {x : World} {b : Nat} {c0 c1 c2 c3 c4 : Value} {t : TypeId} (h : x.heap[b]? = some (.cells #[c0, c1, c2, c3, c4] t)) :
    x.cell? ⟨b, 0, none⟩ = some c0 ∧ x.cell? ⟨b, 1, none⟩ = some c1 ∧ x.cell? ⟨b, 2, none⟩ = some c2 ∧ x.cell? ⟨b, 3, none⟩ = some c3 ∧ x.cell? ⟨b, 4, none⟩ = some c4 := by
  simp [World.cell?, h]
theorem box5f {x : World} {b : Nat} {c0 c1 c2 c3 c4 : Value} {t : TypeId} (h : x.heap[b]? = some (.cells #[c0, c1, c2, c3, c4] t)) :
    (x.cell? ⟨b, 0, none⟩ = some c0 ∧ x.cell? ⟨b, 1, none⟩ = some c1 ∧ x.cell? ⟨b, 2, none⟩ = some c2 ∧ x.cell? ⟨b, 3, none⟩ = some c3 ∧ x.cell? ⟨b, 4, none⟩ = some c4) ∧
    x.frozen? ⟨b, 0, none⟩ = false ∧ x.frozen? ⟨b, 1, none⟩ = false ∧ x.frozen? ⟨b, 2, none⟩ = false ∧ x.frozen? ⟨b, 3, none⟩ = false ∧ x.frozen? ⟨b, 4, none⟩ = false := by
  simp [World.cell?, World.frozen?, h]
theorem own0 {w : World} {B t s n : Nat} {v : Value} {xs : List Value} (h : w.ownsRow B t s v n xs) : w.ownsRow 0 t s v n xs := by
  obtain ⟨hl, h⟩ := h
  refine ⟨hl, ?_⟩
  rcases h with h | ⟨g, cap, cur, h1, _, h3⟩
  · exact .inl h
  · exact .inr ⟨g, cap, cur, h1, Nat.zero_le _, h3⟩
theorem own_shape {w : World} {B t s n : Nat} {v : Value} {xs : List Value} (h : w.ownsRow B t s v n xs) : ∃ a c, v = .slice a n c := by
  rcases h.2 with ⟨rfl, h0⟩ | ⟨g, cap, cur, rfl, _⟩
  · exact ⟨none, 0, by rw [h0]⟩
  · exact ⟨_, _, rfl⟩
theorem ne_types {w : World} {b c : Nat} {x y : Array Value} {t u : TypeId} (h1 : w.heap[b]? = some (.cells x t)) (h2 : w.heap[c]? = some (.cells y u)) (ht : t ≠ u) : b ≠ c := fun e => by
  subst e
  rw [h1] at h2
  injection h2 with h2
  injection h2 with _ h2 _
  exact ht h2
theorem set_oth {w : World} {g b : Nat} {o : Obj} (h : w.heap[b]? = some o) (hne : g ≠ b) (j : Nat) (u : Value) : (w.setCell ⟨g, j, none⟩ u).heap[b]? = some o := by
  simp [World.setCell, Array.getElem?_modify, hne, h]
theorem own_set {w : World} {B te s n b : Nat} {v : Value} {xs : List Value} {cs : Array Value} {tb : TypeId} (h : w.ownsRow B te s v n xs) (hb : w.heap[b]? = some (.cells cs tb)) (ht : te ≠ tb) (j : Nat) (u : Value) : (w.setCell ⟨b, j, none⟩ u).ownsRow B te s v n xs := by
  obtain ⟨hl, h⟩ := h
  refine ⟨hl, ?_⟩
  rcases h with h | ⟨g, cap, cur, h1, h2, h3, h4⟩
  · exact .inl h
  · exact .inr ⟨g, cap, cur, h1, h2, set_oth h3 (ne_types hb h3 (Ne.symm ht)) j u, h4⟩
theorem own_keep {w w' : World} {B te s n : Nat} {v : Value} {xs : List Value} (h : w.ownsRow B te s v n xs) (hB : Below w.heap.size w w') : w'.ownsRow B te s v n xs := by
  obtain ⟨hl, h⟩ := h
  refine ⟨hl, ?_⟩
  rcases h with h | ⟨g, cap, cur, h1, h2, h3, h4⟩
  · exact .inl h
  · exact .inr ⟨g, cap, cur, h1, h2, (hB.block _ (Array.getElem?_eq_some_iff.1 h3).1).trans h3, h4⟩
theorem set_heap {x : World} {b : Nat} {cs : Array Value} {t : TypeId} (h : x.heap[b]? = some (.cells cs t)) (j : Nat) (v : Value) : (x.setCell ⟨b, j, none⟩ v).heap[b]? = some (.cells (cs.setIfInBounds j v) t) := heap_setI h j v

end Go.Proofs.YtcdkpeikjnpmhabGreat
