/-
  CALLS THAT LEAVE WHAT LAY: what they hand on. No function is named here.
-/
import Derived.Test.YtgojieabeaalcaaSl
import Derived.Test.YtgojieabeaalcaaXCodeG
namespace Go.Proofs.Ytgojieabeaalcaa
open Go.ChangeShapes Go.WideShapes Go.ChangeAt Go.RowKit

theorem hidden {p : Prop} (h : p) : Hid p := h
theorem RowAt.calm {w w' : World} {a : Option Addr} {xs : List Value} (h : RowAt w a xs) (hc : GoX.Calm w w') : RowAt w' a xs := by
  rcases h with h | ⟨b, off, h1, h2, h3⟩
  · exact .inl h
  · refine .inr ⟨b, off, h1, Nat.lt_of_lt_of_le h2 hc.size, fun j u hj => ?_⟩
    have := h3 j u hj
    unfold World.cell? at this ⊢
    simp only at this ⊢
    rw [hc.block b h2]
    exact this
theorem Holds.calm {w w' : World} {v : Value} {xs : List Value} (h : Holds w v xs) (hc : GoX.Calm w w') : Holds w' v xs := by
  obtain ⟨a, cap, h1, h2⟩ := h
  exact ⟨a, cap, h1, h2.calm hc⟩
theorem calm_alloc (w : World) (o : Obj) : GoX.Calm w (w.alloc o) := .of_below ((Below.refl _ _).alloc (Nat.le_refl _) _)
theorem calm_set {w w' : World} (h : GoX.Calm w w') {b off : Nat} (hb : w.heap.size ≤ b) (v : Value) : GoX.Calm w (w'.setCell ⟨b, off, none⟩ v) := by
  have hk : ∀ k, k < w.heap.size → (w'.setCell ⟨b, off, none⟩ v).heap[k]? = w.heap[k]? := fun k hk => by
    have hne : b ≠ k := by omega
    rw [← h.block k hk]
    simp [World.setCell, Array.getElem?_modify, hne]
  refine ⟨⟨h.kept.1, h.kept.2.1, fun i hi => ?_⟩, fun a ha => ?_, by simpa [World.setCell] using h.size, hk⟩
  · rw [hk i hi]
    cases hx : w.heap[i]? with
    | none => rfl
    | some o =>
      cases o with
      | cells c t fr => exact ⟨rfl, rfl, rfl, fun _ _ => rfl⟩
      | map es clock => exact .inr ⟨rfl, rfl⟩
      | _ => rfl
  · unfold World.frozen?
    rw [hk a.block ha]
end Go.Proofs.Ytgojieabeaalcaa
