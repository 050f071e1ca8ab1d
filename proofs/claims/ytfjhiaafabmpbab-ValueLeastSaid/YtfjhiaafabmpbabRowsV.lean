/-
  ROWS OF VALUES (structs of two numbers and a text). No function is named here.
-/
import Derived.Test.YtfjhiaafabmpbabSl
import Derived.Test.YtfjhiaafabmpbabVCmp2
namespace Go.Proofs.Ytfjhiaafabmpbab
open Go.ChangeShapes Go.WideShapes Go.ChangeAt Go.RowKit

def V.none : V := ⟨0, 0, ⟨#[]⟩⟩
def flatV : List V → List Value
  | [] => []
  | p :: r => .int .i64 p.k :: .int .i64 p.n :: .string p.s :: flatV r
theorem flatV_len : ∀ ps : List V, (flatV ps).length = ps.length * 3
  | [] => rfl
  | p :: r => by simp [flatV, flatV_len r]; omega
theorem flatV_append : ∀ ps qs : List V, flatV (ps ++ qs) = flatV ps ++ flatV qs
  | [], _ => rfl
  | p :: r, qs => by simp [flatV, flatV_append r qs]
theorem flatV_at : ∀ (ps : List V) (k : Nat), k < ps.length → (flatV ps)[k * 3]? = some (.int .i64 (ps.getD k V.none).k) ∧ (flatV ps)[k * 3 + 1]? = some (.int .i64 (ps.getD k V.none).n) ∧ (flatV ps)[k * 3 + 2]? = some (.string (ps.getD k V.none).s)
  | p :: r, 0, _ => ⟨rfl, rfl, rfl⟩
  | p :: r, k + 1, h => by
    have := flatV_at r k (by simpa using h)
    rw [show (k + 1) * 3 = k * 3 + 1 + 1 + 1 by omega]
    simpa [flatV] using this
/-- A slice that holds values. -/
def HoldsV (w : World) (v : Value) (ps : List V) : Prop := ∃ a cap, v = .slice a ps.length cap ∧ RowAt w a (flatV ps)
theorem HoldsV.below {w w' : World} {v : Value} {ps : List V} (h : HoldsV w v ps) (hb : Below w.heap.size w w') : HoldsV w' v ps := by
  obtain ⟨a, cap, h1, h2⟩ := h
  exact ⟨a, cap, h1, h2.below hb⟩
theorem holdsV_of_owns {w : World} {base : Nat} {e : TypeId} {v : Value} {n : Nat} {ps : List V} (h : w.ownsRow base e 3 v n (flatV ps)) : HoldsV w v ps := by
  obtain ⟨hl, h⟩ := h
  rw [flatV_len] at hl
  have hn : n = ps.length := by omega
  subst hn
  rcases h with ⟨rfl, h0⟩ | ⟨g, cap, cur, rfl, hg, hcell, hn, hcm, hsz, htake⟩
  · obtain rfl : ps = [] := List.eq_nil_of_length_eq_zero h0
    exact ⟨none, 0, rfl, .inl rfl⟩
  · refine ⟨some ⟨g, 0, none⟩, cap, rfl, .inr ⟨g, 0, rfl, (Array.getElem?_eq_some_iff.1 hcell).1, fun j u hj => ?_⟩⟩
    have hj' : j < (flatV ps).length := (List.getElem?_eq_some_iff.1 hj).1
    rw [flatV_len] at hj'
    rw [← htake, List.getElem?_take, if_pos (by omega)] at hj
    simp only [World.cell?, hcell, Nat.zero_add]
    simpa using hj
theorem values_at {w : World} {a : Option Addr} {ps : List V} (h : RowAt w a (flatV ps)) {k : Nat} (hk : k < ps.length) :
    ∃ b off, a = some ⟨b, off, none⟩ ∧ b < w.heap.size ∧ w.cell? ⟨b, off + k * 3, none⟩ = some (.int .i64 (ps.getD k V.none).k) ∧ w.cell? ⟨b, off + k * 3 + 1, none⟩ = some (.int .i64 (ps.getD k V.none).n) ∧
      w.cell? ⟨b, off + k * 3 + 2, none⟩ = some (.string (ps.getD k V.none).s) := by
  obtain ⟨h1, h2, h3⟩ := flatV_at ps k hk
  rcases h with h0 | ⟨b, off, rfl, hb, hc⟩
  · have := congrArg List.length h0
    rw [flatV_len] at this
    simp only [List.length_nil] at this; omega
  · exact ⟨b, off, rfl, hb, hc _ _ h1, by have := hc _ _ h2; rwa [← Nat.add_assoc] at this, by have := hc _ _ h3; rwa [← Nat.add_assoc] at this⟩
theorem take_snocV (ps : List V) (k : Nat) (hk : k < ps.length) : ps.take (k + 1) = ps.take k ++ [ps.getD k V.none] := by
  rw [List.take_add_one, List.getElem?_eq_getElem hk]; simp [List.getD, hk]
theorem heap_set {x : World} {b : Nat} {cs : Array Value} {t : TypeId} (h : x.heap[b]? = some (.cells cs t)) (j : Nat) (v : Value) : (x.setCell ⟨b, j, none⟩ v).heap[b]? = some (.cells (cs.setIfInBounds j v) t) := by
  simp [World.setCell, Array.getElem?_modify, h]
theorem heap_set3 {x : World} {b : Nat} {a0 a1 a2 : Value} {t : TypeId} (h : x.heap[b]? = some (.cells #[a0, a1, a2] t)) (c0 c1 c2 : Value) :
    (((x.setCell ⟨b, 0, none⟩ c0).setCell ⟨b, 1, none⟩ c1).setCell ⟨b, 2, none⟩ c2).heap[b]? = some (.cells #[c0, c1, c2] t) := by
  have h1 := heap_set h 0 c0
  have h2 := heap_set h1 1 c1
  have h3 := heap_set h2 2 c2
  simpa using h3
theorem heap_set_other {x : World} {p : Addr} {v : Value} {b : Nat} (h : p.block ≠ b) : (x.setCell p v).heap[b]? = x.heap[b]? := by
  simp [World.setCell, Array.getElem?_modify, h]
theorem box_facts {x : World} {b : Nat} {c0 c1 c2 : Value} {t : TypeId} (h : x.heap[b]? = some (.cells #[c0, c1, c2] t)) :
    (x.cell? ⟨b, 0, none⟩ = some c0 ∧ x.cell? ⟨b, 1, none⟩ = some c1 ∧ x.cell? ⟨b, 2, none⟩ = some c2) ∧ x.frozen? ⟨b, 0, none⟩ = false ∧ x.frozen? ⟨b, 1, none⟩ = false ∧ x.frozen? ⟨b, 2, none⟩ = false := by
  refine ⟨⟨?_, ?_, ?_⟩, ?_, ?_, ?_⟩ <;> simp [World.cell?, World.frozen?, h]
end Go.Proofs.Ytfjhiaafabmpbab
