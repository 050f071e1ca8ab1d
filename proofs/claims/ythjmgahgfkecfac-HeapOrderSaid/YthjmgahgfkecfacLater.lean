/-
  A REGION THAT DRAWS ITS ORDER, WHOSE OPERATIONS READ AND WHOSE CALLEES MAKE MEMORY BUT WRITE NONE THAT WAS THERE: one walk. No function is named here.
-/
import Derived.Test.YthjmgahgfkecfacRows1
import Derived.Deep.QuietTactic
import Derived.BigQuiet
namespace Go.Proofs.Ythjmgahgfkecfac
open Go.ChangeShapes Go.WideShapes Go.ChangeAt Go.RowKit

/-- A world of the class. -/
structure In (C : World → Prop) where
  w : World
  h : C w
theorem wp_region_later {P : Program} {id : Nat} {Q : Exit → Act → World → Prop} {a : Act} {w : World} {l : List Oper} (C : World → Prop) (hm : P.follows .mixedOrders = true) (hB : Region.lexB .any l.toArray = true) (hC : C w.drew)
    (h : ∀ _ : Nonempty (In C), wpQuiet P l.toArray (fun w' => ∃ x : In C, w' = x.w) (fun a' => ∀ w', C w' → Q .normal a' w') l a) : (Code.region id l.toArray true).wp P Q a w := by
  refine wp_region_quiet (C := C) hm hB hC ?_
  have h := h ⟨⟨_, hC⟩⟩
  have e : (fun w' => ∃ x : In C, w' = x.w) = C := by
    funext w'
    exact propext ⟨fun ⟨x, hx⟩ => hx ▸ x.h, fun h => ⟨⟨w', h⟩, rfl⟩⟩
  rw [e] at h
  simpa using h
theorem later_of {P : Program} {C : World → Prop} {f : FuncId} {args : Array Value} {v : Value} {x : In C} (h : Calls P f args x.w fun e w' => e = .returned v ∧ C w') :
    Calls P f args x.w fun e w'' => e = .returned v ∧ ∃ y : In C, w'' = y.w :=
  h.mono fun _ w' ⟨he, hw⟩ => ⟨he, ⟨w', hw⟩, rfl⟩

/-- All that lay in w lies as it lay, and these cells hold these values. -/
def Keeps (w : World) (F : List (Addr × Value)) (x : World) : Prop := Below w.heap.size w x ∧ ∀ p ∈ F, x.cell? p.1 = some p.2
theorem Keeps.below {w x y : World} {F : List (Addr × Value)} (h : Keeps w F x) (hb : Below x.heap.size x y) : Keeps w F y :=
  ⟨h.1.trans (hb.mono h.1.size), fun p hp => (hb.cell (World.block_lt_of_cell? x p.1 (h.2 p hp))).trans (h.2 p hp)⟩
theorem Keeps.drew {w x : World} {F : List (Addr × Value)} (h : Keeps w F x) : Keeps w F x.drew := ⟨h.1.drew, fun p hp => h.2 p hp⟩
theorem Keeps.at {w : World} {F : List (Addr × Value)} (j : Nat) {p : Addr × Value} (hj : F[j]? = some p) (x : In (Keeps w F)) : x.w.cell? p.1 = some p.2 :=
  x.h.2 p (List.mem_of_getElem? hj)
/-- A callee by its contract, in a world of the class. -/
theorem Keeps.calls {P : Program} {w : World} {F : List (Addr × Value)} {f : FuncId} {args : Array Value} {v : Value} (h : ∀ w, Calls P f args w fun e w' => e = .returned v ∧ Below w.heap.size w w') (x : In (Keeps w F)) :
    Calls P f args x.w fun e w'' => e = .returned v ∧ ∃ y : In (Keeps w F), w'' = y.w :=
  later_of ((h x.w).mono fun _ _ ⟨he, hb⟩ => ⟨he, x.h.below hb⟩)
end Go.Proofs.Ythjmgahgfkecfac
