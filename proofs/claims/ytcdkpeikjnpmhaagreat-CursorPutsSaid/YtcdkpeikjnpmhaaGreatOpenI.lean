/-
  AN ITEM THAT CAME IN: a struct of a number, a row of numbers, and two numbers. No function is named here.
-/
import Derived.Test.YtcdkpeikjnpmhaaGreatSl
import Derived.ChangeSame
import Derived.Lib.SmallJoins
import Derived.Test.YtcdkpeikjnpmhaaGreatXCodeG
namespace Go.Proofs.YtcdkpeikjnpmhaaGreat
open Go.ChangeShapes Go.WideShapes Go.ChangeAt Go.RowKit

/-- A slice of numbers in a cell: what it holds. -/
theorem open_rowc {H : Type} {enc : TypeId × Value → H} {P : Program} {w : World} {sp : Nat → Bool} {held : Bool} {t e : TypeId} {k : IntKind} {v : Value} {fuel : Nat} {x : DataW H × List MemPlace}
    (ht : P.underlying t = some (.slice e)) (he : P.underlying e = some (.int k)) (hc : P.cellsOf e = 1) (hf : DataW.trod enc P w 0 sp held fuel t [v] = some x)
    (hsp : ∀ b, sp b = true) : ∃ zs : List Int, Holds w v (zs.map (Value.int k)) ∧ zs.length ≤ maxLen ∧ ∀ z ∈ zs, (Lit.int k z).wf = true := by
  rcases open_ints ht he hc hf with ⟨hcs, _⟩ | ⟨a, len, cap, zs, hcs, _, hl, hm, hz, _, hcell, hwz⟩
  · simp only [List.cons.injEq, and_true] at hcs
    subst hcs
    exact ⟨[], ⟨none, 0, rfl, .inl rfl⟩, by unfold maxLen; simp, fun _ h => by cases h⟩
  · simp only [List.cons.injEq, and_true] at hcs
    subst hcs
    rw [hsp, if_pos rfl] at hz
    have hlen : (zs.take len).length = len := by rw [List.length_take]; omega
    refine ⟨zs.take len, ⟨some a, cap, by rw [List.length_map, hlen], ?_⟩, by omega, fun z hz => hwz z (List.mem_of_mem_take hz)⟩
    by_cases h0 : len = 0
    · left; subst h0; simp
    · right
      obtain ⟨b, off, o⟩ := a
      have h1 := hcell 0 (by omega)
      obtain rfl : o = none := by
        cases o with
        | none => rfl
        | some u => exact absurd h1 (by simp only [Addr.add, World.cell?]; split <;> simp)
      refine ⟨b, off, rfl, ?_, fun j u hj => ?_⟩
      · have h2 : (Addr.add ⟨b, off, none⟩ 0).block = b := by simp [Addr.add]
        simp only [World.cell?] at h1
        rw [h2] at h1
        cases hb : w.heap[b]? with
        | none => rw [hb] at h1; cases h1
        | some o => exact (Array.getElem?_eq_some_iff.1 hb).1
      · simp only [List.getElem?_map, Option.map_eq_some_iff] at hj
        obtain ⟨z, hz', rfl⟩ := hj
        rw [List.getElem?_take] at hz'
        split at hz'
        · have := hcell j (by have := (List.getElem?_eq_some_iff.1 hz').1; omega)
          have e : Addr.add ⟨b, off, none⟩ j = ⟨b, off + j, none⟩ := by
            by_cases hj : j = 0
            · subst hj; simp [Addr.add]
            · simp [Addr.add, hj]
          rw [e] at this
          simpa [List.getD, hz'] using this
        · cases hz'
/-- An item's number, its row's numbers, and two more. -/
structure It where
  c : Int
  l : List Int
  p : Int
  r : Int
def It.wf (x : It) : Prop := (Lit.int .i64 x.c).wf = true ∧ x.l.length ≤ maxLen ∧ (∀ z ∈ x.l, (Lit.int .i64 z).wf = true) ∧ (Lit.int .i64 x.p).wf = true ∧ (Lit.int .i64 x.r).wf = true
theorem open_item_cells {H : Type} {enc : TypeId × Value → H} {P : Program} {w : World} {sp : Nat → Bool} {held : Bool} {t e : TypeId} {f0 f1 f2 f3 : Field} {u0 u1 u2 u3 : Value} {fuel : Nat} {x : DataW H × List MemPlace}
    (he : P.underlying t = some (.struct #[f0, f1, f2, f3])) (h0 : P.underlying f0.type = some (.int .i64)) (h1 : P.underlying f1.type = some (.slice e)) (hel : P.underlying e = some (.int .i64)) (hec : P.cellsOf e = 1) (h2 : P.underlying f2.type = some (.int .i64)) (h3 : P.underlying f3.type = some (.int .i64))
    (o0 : f0.offset = 0) (o1 : f1.offset = 1) (o2 : f2.offset = 2) (o3 : f3.offset = 3) (c0 : P.cellsOf f0.type = 1) (c1 : P.cellsOf f1.type = 1) (c2 : P.cellsOf f2.type = 1) (c3 : P.cellsOf f3.type = 1)
    (hsp : ∀ b, sp b = true) (hf : DataW.trod enc P w 0 sp held fuel t [u0, u1, u2, u3] = some x) :
    ∃ y : It, u0 = .int .i64 y.c ∧ u2 = .int .i64 y.p ∧ u3 = .int .i64 y.r ∧ Holds w u1 (y.l.map (Value.int .i64)) ∧ y.wf := by
  obtain ⟨y0, y1, y2, y3, n, _, _, g0, g1, g2, g3⟩ := Go.Joins.trod_struct4 he hf
  rw [o0, c0] at g0
  rw [o1, c1] at g1
  rw [o2, c2] at g2
  rw [o3, c3] at g3
  obtain ⟨a, e0, _, w0⟩ := DataW.trod_int h0 g0
  obtain ⟨b, e2, _, w2⟩ := DataW.trod_int h2 g2
  obtain ⟨c, e3, _, w3⟩ := DataW.trod_int h3 g3
  obtain ⟨zs, hh, hm, hw⟩ := open_rowc h1 hel hec (show DataW.trod enc P w 0 sp held n f1.type [u1] = some y1 by simpa using g1) hsp
  exact ⟨⟨a, zs, b, c⟩, by simpa using e0, by simpa using e2, by simpa using e3, hh, w0, hm, hw, w2, w3⟩
theorem open_item {H : Type} {enc : TypeId × Value → H} {P : Program} {w : World} {sp : Nat → Bool} {held : Bool} {t e : TypeId} {f0 f1 f2 f3 : Field} {v : Value} {d : DataW H} {qs : List MemPlace} {r : Reach} {b0 : Nat}
    (he : P.underlying t = some (.struct #[f0, f1, f2, f3])) (h0 : P.underlying f0.type = some (.int .i64)) (h1 : P.underlying f1.type = some (.slice e)) (hel : P.underlying e = some (.int .i64)) (hec : P.cellsOf e = 1) (h2 : P.underlying f2.type = some (.int .i64)) (h3 : P.underlying f3.type = some (.int .i64))
    (hagg : (match P.underlying t with | some (.struct _) | some (.array _ _) => true | _ => false) = true) (hn : P.cellsOf t = 4)
    (o0 : f0.offset = 0) (o1 : f1.offset = 1) (o2 : f2.offset = 2) (o3 : f3.offset = 3) (c0 : P.cellsOf f0.type = 1) (c1 : P.cellsOf f1.type = 1) (c2 : P.cellsOf f2.type = 1) (c3 : P.cellsOf f3.type = 1)
    (hsp : ∀ b, sp b = true) (hval : Value.okWide P w r b0 t v) (h : DataW.Trod enc P w 0 sp held t v d qs) :
    ∃ (y : It) (nv : Value), v = .agg #[.int .i64 y.c, nv, .int .i64 y.p, .int .i64 y.r] ∧ Holds w nv (y.l.map (Value.int .i64)) ∧ y.wf := by
  obtain ⟨l, hl, rfl, _⟩ := GoX.arg_agg hagg hn hval
  obtain ⟨fuel, hf⟩ := h
  match l, hl with
  | [u0, u1, u2, u3], _ =>
    obtain ⟨y, rfl, rfl, rfl, hh, hw⟩ := open_item_cells he h0 h1 hel hec h2 h3 o0 o1 o2 o3 c0 c1 c2 c3 hsp (show DataW.trod enc P w 0 sp held fuel t [u0, u1, u2, u3] = some _ from hf)
    exact ⟨y, u1, rfl, hh, hw⟩
end Go.Proofs.YtcdkpeikjnpmhaaGreat
