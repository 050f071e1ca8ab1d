/-
  TEXTS JOINED BY A BLANK; a row of texts that is filled. No function is named here.
-/
import Derived.Test.YtnecfgmbfkocnabDoorGCmp
import Derived.Lib.Join
namespace Go.Proofs.YtnecfgmbfkocnabDoor
open Go.ChangeShapes Go.WideShapes Go.ChangeAt Go.RowKit

/-- Texts joined by a blank. -/
def jn (ts : List ByteArray) : ByteArray := ⟨(Lib.join (ts.map (·.data.toList)) [32]).toArray⟩
theorem jn_nil : jn [] = ⟨#[]⟩ := rfl
theorem jn_one (t : ByteArray) : jn [t] = t := by
  apply ByteArray.ext
  simp [jn, Lib.join_one]
theorem jn_snoc (ts : List ByteArray) (t : ByteArray) (h : ts ≠ []) : jn (ts ++ [t]) = (jn ts ++ ⟨#[32]⟩) ++ t := by
  obtain ⟨x, r, rfl⟩ := List.exists_cons_of_ne_nil h
  apply ByteArray.ext
  apply Array.ext'
  simp [jn, Lib.join_cons, Lib.joinTail]
theorem jn_size (m : Nat) : ∀ ts : List ByteArray, (∀ t ∈ ts, t.size ≤ m) → (jn ts).size ≤ ts.length * (m + 1)
  | [], _ => Nat.zero_le _
  | [t], h => by
    rw [jn_one]
    have := h t (by simp)
    simp; omega
  | t :: s :: r, h => by
    have ih := jn_size m (s :: r) (fun x hx => h x (by simp at hx ⊢; right; exact hx))
    have ht := h t (by simp)
    have e : (jn (t :: s :: r)).size = t.size + (1 + (jn (s :: r)).size) := by
      simp only [jn, ByteArray.size, List.map_cons, List.size_toArray]
      simp only [Lib.join_cons, Lib.joinTail, List.map_cons, List.flatten_cons, List.length_append, List.length_cons, List.length_nil, Array.length_toList]
      omega
    rw [e]
    simp only [List.length_cons] at ih ⊢
    rw [show (r.length + 1 + 1) * (m + 1) = (r.length + 1) * (m + 1) + (m + 1) by rw [Nat.add_mul (r.length + 1), Nat.one_mul]]
    omega
/-- A row of texts, the first k of them told. -/
def trow (ts : List ByteArray) (k : Nat) : List Value := (ts.take k).map Value.string ++ List.replicate (ts.length - k) (.string ⟨#[]⟩)
theorem trow_len (ts : List ByteArray) (k : Nat) (hk : k ≤ ts.length) : (trow ts k).length = ts.length := by
  simp [trow, List.length_take]; omega
theorem trow_zero (ts : List ByteArray) : trow ts 0 = List.replicate ts.length (.string ⟨#[]⟩) := by simp [trow]
theorem trow_full (ts : List ByteArray) : trow ts ts.length = ts.map Value.string := by simp [trow]
theorem trow_set (ts : List ByteArray) (k : Nat) (hk : k < ts.length) : (trow ts k).set k (.string (ts.getD k ⟨#[]⟩)) = trow ts (k + 1) := by
  apply List.ext_getElem?
  intro j
  rw [List.getElem?_set]
  have hl := trow_len ts k (by omega)
  by_cases hj : k = j
  · subst hj
    rw [if_pos rfl, if_pos (by rw [hl]; exact hk)]
    unfold trow
    rw [List.getElem?_append_left (by simp [List.length_take]; omega)]
    simp [List.getD, hk]
  · rw [if_neg hj]
    unfold trow
    by_cases hlt : j < k
    · rw [List.getElem?_append_left (by simp [List.length_take]; omega), List.getElem?_append_left (by simp [List.length_take]; omega)]
      simp [hlt, show j < k + 1 by omega]
    · rw [List.getElem?_append_right (by simp [List.length_take]; omega), List.getElem?_append_right (by simp [List.length_take]; omega)]
      simp only [List.length_map, List.length_take, List.getElem?_replicate]
      rw [Nat.min_eq_left (by omega), Nat.min_eq_left (by omega)]
      by_cases h2 : j < ts.length
      · rw [if_pos (by omega), if_pos (by omega)]
      · rw [if_neg (by omega), if_neg (by omega)]
theorem trow_set2 (ts : List ByteArray) (k : Nat) (hk : k < ts.length) (x : Value) : ((trow ts k).set k x).set k (.string (ts.getD k ⟨#[]⟩)) = trow ts (k + 1) := by
  rw [List.set_set, trow_set ts k hk]
theorem trow_cells {w : World} {B g n c : Nat} {e : TypeId} {ts : List ByteArray} (h : w.ownsRow B e 1 (.slice (some ⟨g, 0, none⟩) n c) n (ts.map Value.string)) : ∀ (j : Nat) x, ts[j]? = some x → w.cell? ⟨g, 0 + j, none⟩ = some (.string x) := fun j x hj => by
  rcases h.2 with ⟨h1, _⟩ | ⟨g', cap, cur, h1, _, h3, _, _, _, h7⟩
  · cases h1
  · simp only [Value.slice.injEq, Option.some.injEq, Addr.mk.injEq] at h1
    obtain ⟨⟨rfl, _⟩, _, _⟩ := h1
    have hl := h.1
    rw [List.length_map, Nat.mul_one] at hl
    have hlt := (List.getElem?_eq_some_iff.1 hj).1
    have h2 : (ts.map Value.string)[j]? = some (.string x) := by simp [hj]
    rw [← h7, List.getElem?_take, if_pos (by omega)] at h2
    simp only [World.cell?, h3, Nat.zero_add]
    simpa using h2
end Go.Proofs.YtnecfgmbfkocnabDoor
