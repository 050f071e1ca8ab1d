/-
  MEMORY KEPT, OVER THE EXECUTOR'S RELATION. No function is named here.
-/
import Derived.Test.YtfjhiaafabmpbabLater
import Derived.Test.YtfjhiaafabmpbabXCodeG
namespace Go.Proofs.Ytfjhiaafabmpbab
open Go.ChangeShapes Go.WideShapes Go.ChangeAt Go.RowKit

/-- The same with the executor's relation. -/
def KeepsC (w : World) (F : List (Addr × Value)) (x : World) : Prop := GoX.Calm w x ∧ ∀ p ∈ F, x.cell? p.1 = some p.2
theorem calm_cell {x y : World} (h : GoX.Calm x y) {p : Addr} {v : Value} (hp : x.cell? p = some v) : y.cell? p = some v := by
  have hb := h.block p.block (World.block_lt_of_cell? x p hp)
  unfold World.cell? at hp ⊢
  rw [hb]; exact hp
theorem KeepsC.calm {w x y : World} {F : List (Addr × Value)} (h : KeepsC w F x) (hc : GoX.Calm x y) : KeepsC w F y := ⟨h.1.trans hc, fun p hp => calm_cell hc (h.2 p hp)⟩
theorem KeepsC.at {w : World} {F : List (Addr × Value)} (j : Nat) {p : Addr × Value} (hj : F[j]? = some p) (x : In (KeepsC w F)) : x.w.cell? p.1 = some p.2 := x.h.2 p (List.mem_of_getElem? hj)
theorem KeepsC.calls {P : Program} {w : World} {F : List (Addr × Value)} {f : FuncId} {args : Array Value} {v : Value} (h : ∀ x, KeepsC w F x → Calls P f args x fun e w' => e = .returned v ∧ Below x.heap.size x w') (x : In (KeepsC w F)) :
    Calls P f args x.w fun e w'' => e = .returned v ∧ ∃ y : In (KeepsC w F), w'' = y.w :=
  later_of ((h x.w x.h).mono fun _ _ ⟨he, hb⟩ => ⟨he, x.h.calm (GoX.Calm.of_below hb)⟩)
theorem KeepsC.callsC {P : Program} {w : World} {F : List (Addr × Value)} {f : FuncId} {args : Array Value} {v : Value} (h : ∀ x, KeepsC w F x → Calls P f args x fun e w' => e = .returned v ∧ GoX.Calm x w') (x : In (KeepsC w F)) :
    Calls P f args x.w fun e w'' => e = .returned v ∧ ∃ y : In (KeepsC w F), w'' = y.w :=
  later_of ((h x.w x.h).mono fun _ _ ⟨he, hb⟩ => ⟨he, x.h.calm hb⟩)
end Go.Proofs.Ytfjhiaafabmpbab
