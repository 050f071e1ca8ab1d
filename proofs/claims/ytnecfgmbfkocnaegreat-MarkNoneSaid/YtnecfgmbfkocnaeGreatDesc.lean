/-
  WHAT AN OPERATION HANDS ON: a value, an item, a row of items. No function is named here.
-/
import Derived.Test.YtnecfgmbfkocnaeGreatRelCut
import Derived.Test.YtnecfgmbfkocnaeGreatOpenIL
import Derived.Test.YtnecfgmbfkocnaeGreatCalms
namespace Go.Proofs.YtnecfgmbfkocnaeGreat
open Go.ChangeShapes Go.WideShapes Go.ChangeAt Go.RowKit

theorem calm_cell {x y : World} (h : GoX.Calm x y) {p : Addr} {v : Value} (hp : x.cell? p = some v) : y.cell? p = some v := by
  have hb := h.block p.block (World.block_lt_of_cell? x p hp)
  unfold World.cell? at hp ⊢
  rw [hb]; exact hp
theorem ItAt.calm {w w' : World} {b o : Nat} {y : It} {nv : Value} (h : ItAt w b o y nv) (hc : GoX.Calm w w') : ItAt w' b o y nv := by
  obtain ⟨h0, h1, h2, h3, h4⟩ := h
  exact ⟨calm_cell hc h0, calm_cell hc h1, calm_cell hc h2, calm_cell hc h3, h4.calm hc⟩
theorem HoldsIL.calm {w w' : World} {v : Value} {ys : List It} (h : HoldsIL w v ys) (hc : GoX.Calm w w') : HoldsIL w' v ys := by
  obtain ⟨a, cap, h1, h2⟩ := h
  refine ⟨a, cap, h1, ?_⟩
  rcases h2 with h2 | ⟨b, off, e, hb, h⟩
  · exact .inl h2
  · refine .inr ⟨b, off, e, Nat.lt_of_lt_of_le hb hc.size, fun j hj => ?_⟩
    obtain ⟨nv, hn⟩ := h j hj
    exact ⟨nv, hn.calm hc⟩

inductive De
  | any
  | eq (v : Value)
  | it (y : It)
  | its (ys : List It)
def De.den : De → Value → World → Prop
  | .any, _, _ => True
  | .eq u, v, _ => v = u
  | .it y, v, w => ∃ nv, v = itV y nv ∧ Holds w nv (y.l.map (Value.int .i64))
  | .its ys, v, w => HoldsIL w v ys
theorem De.calm {d : De} {v : Value} {w w' : World} (h : d.den v w) (hc : GoX.Calm w w') : d.den v w' := by
  cases d with
  | any => trivial
  | eq u => exact h
  | it y =>
    obtain ⟨nv, h1, h2⟩ := h
    exact ⟨nv, h1, h2.calm hc⟩
  | its ys => exact HoldsIL.calm h hc
end Go.Proofs.YtnecfgmbfkocnaeGreat
