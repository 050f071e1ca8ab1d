/-
  A ROW OF STRUCTS OF A NUMBER AND A BOOL THAT CAME IN. No function is named here.
-/
import Derived.Test.YtlamheddaejdbaaGreatDoorSl
import Derived.ChangeSame
import Derived.ChangeArms
namespace Go.Proofs.YtlamheddaejdbaaGreatDoor
open Go.ChangeShapes Go.WideShapes Go.ChangeAt Go.RowKit

/-- A slice of structs of a number and a bool. -/
def HoldsH (w : World) (v : Value) (ps : List (Int × Bool)) : Prop := ∃ a cap, v = .slice a ps.length cap ∧
  (ps = [] ∨ ∃ b off, a = some ⟨b, off, none⟩ ∧ b < w.heap.size ∧ ∀ j, j < ps.length → w.cell? ⟨b, off + j * 2, none⟩ = some (.int .i64 (ps.getD j (0, false)).1) ∧ w.cell? ⟨b, off + j * 2 + 1, none⟩ = some (.bool (ps.getD j (0, false)).2))
def hopAt (w : World) (a : Addr) : Int := match w.cell? a with
  | some (.int _ n) => n
  | _ => 0
def backAt (w : World) (a : Addr) : Bool := match w.cell? a with
  | some (.bool b) => b
  | _ => false
theorem add_zero_addrH (a : Addr) : a.add 0 = a := by simp [Addr.add]
theorem open_hops {H : Type} {enc : TypeId × Value → H} {P : Program} {w : World} {sp : Nat → Bool} {held : Bool} {t e : TypeId} {f0 f1 : Field} {v : Value} {d : DataW H} {qs : List MemPlace} {r : Reach} {b0 : Nat}
    (ht : P.underlying t = some (.slice e)) (he : P.underlying e = some (.struct #[f0, f1])) (h0 : P.underlying f0.type = some (.int .i64)) (h1 : P.underlying f1.type = some .bool) (hc : P.cellsOf e = 2)
    (o0 : f0.offset = 0) (o1 : f1.offset = 1) (c0 : P.cellsOf f0.type = 1) (c1 : P.cellsOf f1.type = 1)
    (hval : Value.okWide P w r b0 t v) (h : DataW.Trod enc P w 0 sp held t v d qs) : ∃ ps : List (Int × Bool), ps.length ≤ maxLen ∧ HoldsH w v ps := by
  obtain ⟨a0, len, cap, rfl⟩ := okWide_slice ht hval
  obtain ⟨fuel, hf⟩ := h
  rcases DataW.trod_slice ht hf with ⟨hcs, _⟩ | ⟨a, len', cap', elems, rest, n, _, hcs, _, _, hl, hm, hlen, hel, _, _⟩
  · simp only [Value.cells, List.cons.injEq, Value.slice.injEq, and_true] at hcs
    obtain ⟨rfl, rfl, rfl⟩ := hcs
    exact ⟨[], by unfold maxLen; simp, ⟨none, 0, rfl, .inl rfl⟩⟩
  · simp only [Value.cells, List.cons.injEq, Value.slice.injEq, and_true] at hcs
    obtain ⟨rfl, rfl, rfl⟩ := hcs
    have each : ∀ i, i < len → ∃ (x : Int) (y : Bool), w.cell? (a.add (i * 2)) = some (.int .i64 x) ∧ w.cell? ((a.add (i * 2)).add 1) = some (.bool y) := by
      intro i hi
      have hb := hel i hi
      rw [List.getElem?_eq_getElem (by omega), hc, Option.bind_eq_some_iff] at hb
      obtain ⟨cs', hcs', hy⟩ := hb
      obtain ⟨_, hcl, hcc⟩ := World.cells?_some hcs'
      match cs', hcl with
      | [u0, u1], _ =>
        obtain ⟨y0, y1, m, _, _, g0, g1⟩ := trod_struct2 he hy
        rw [o0, c0] at g0
        rw [o1, c1] at g1
        obtain ⟨x, e0, _, _⟩ := DataW.trod_int h0 g0
        obtain ⟨y, e1, _⟩ := DataW.trod_bool h1 g1
        have e0 : u0 = .int .i64 x := by simpa using e0
        have e1 : u1 = .bool y := by simpa using e1
        have k0 := hcc 0 (by omega)
        have k1 := hcc 1 (by omega)
        rw [add_zero_addrH] at k0
        exact ⟨x, y, by rw [k0, e0]; rfl, by rw [k1, e1]; rfl⟩
    obtain ⟨b, off, o⟩ := a
    by_cases hz : len = 0
    · subst hz
      exact ⟨[], by unfold maxLen; simp, ⟨_, cap, rfl, .inl rfl⟩⟩
    · obtain rfl : o = none := by
        obtain ⟨x, y, hx, _⟩ := each 0 (by omega)
        cases o with
        | none => rfl
        | some u => exact absurd hx (by simp only [Addr.add, World.cell?]; split <;> simp)
      have each' : ∀ i, i < len → w.cell? ⟨b, off + i * 2, none⟩ = some (.int .i64 (hopAt w ⟨b, off + i * 2, none⟩)) ∧ w.cell? ⟨b, off + i * 2 + 1, none⟩ = some (.bool (backAt w ⟨b, off + i * 2 + 1, none⟩)) := fun i hi => by
        obtain ⟨x, y, hx, hy⟩ := each i hi
        rw [add_plain] at hx
        rw [add_plain, add_plain] at hy
        unfold hopAt backAt
        rw [hx, hy]
        exact ⟨rfl, rfl⟩
      have hbs : b < w.heap.size := by
        obtain ⟨hx, _⟩ := each' 0 (by omega)
        exact World.block_lt_of_cell? w _ hx
      refine ⟨(List.range len).map fun i => (hopAt w ⟨b, off + i * 2, none⟩, backAt w ⟨b, off + i * 2 + 1, none⟩), by simp; omega, ⟨some ⟨b, off, none⟩, cap, by simp, .inr ⟨b, off, rfl, hbs, fun j hj => ?_⟩⟩⟩
      simp only [List.length_map, List.length_range] at hj
      obtain ⟨ha, hb'⟩ := each' j hj
      simp only [List.getD, List.getElem?_map, List.getElem?_range hj, Option.map_some, Option.getD_some]
      exact ⟨ha, hb'⟩
end Go.Proofs.YtlamheddaejdbaaGreatDoor
