/-
  A MARK THAT COMES IN: what it holds.
-/
import Derived.Test.YtnecfgmbfkocnaeGreatMark
import Derived.ChangeArms
namespace Go.Proofs.YtnecfgmbfkocnaeGreat
open Go.ChangeShapes Go.WideShapes Go.ChangeAt Go.RowKit

theorem open_itemsc {H : Type} {enc : TypeId × Value → H} {P : Program} {w : World} {sp : Nat → Bool} {held : Bool} {st t e : TypeId} {f0 f1 f2 f3 : Field} {v : Value} {fuel : Nat} {x : DataW H × List MemPlace}
    (hst : P.underlying st = some (.slice t)) (he : P.underlying t = some (.struct #[f0, f1, f2, f3])) (h0 : P.underlying f0.type = some (.int .i64)) (h1 : P.underlying f1.type = some (.slice e)) (hel : P.underlying e = some (.int .i64)) (hec : P.cellsOf e = 1)
    (h2 : P.underlying f2.type = some (.int .i64)) (h3 : P.underlying f3.type = some (.int .i64)) (hn : P.cellsOf t = 4)
    (o0 : f0.offset = 0) (o1 : f1.offset = 1) (o2 : f2.offset = 2) (o3 : f3.offset = 3) (c0 : P.cellsOf f0.type = 1) (c1 : P.cellsOf f1.type = 1) (c2 : P.cellsOf f2.type = 1) (c3 : P.cellsOf f3.type = 1)
    (hsp : ∀ b, sp b = true) (hf : DataW.trod enc P w 0 sp held fuel st [v] = some x) : ∃ ys : List It, ys.length ≤ maxLen ∧ HoldsIL w v ys ∧ ∀ y ∈ ys, y.wf := by
  rcases DataW.trod_slice hst hf with ⟨hcs, _⟩ | ⟨a, len', cap', elems, rest, n, _, hcs, _, _, hl, hm, hlen, hel', _, _⟩
  · simp only [List.cons.injEq, and_true] at hcs
    subst hcs
    exact ⟨[], by unfold maxLen; simp, ⟨none, 0, rfl, .inl rfl⟩, fun _ h => by cases h⟩
  · simp only [List.cons.injEq, and_true] at hcs
    subst hcs
    have each : ∀ i, ∃ q : It × Value, i < len' → w.cell? (a.add (i * 4)) = some (.int .i64 q.1.c) ∧ w.cell? ((a.add (i * 4)).add 1) = some q.2 ∧ w.cell? ((a.add (i * 4)).add 2) = some (.int .i64 q.1.p) ∧ w.cell? ((a.add (i * 4)).add 3) = some (.int .i64 q.1.r) ∧
        Holds w q.2 (q.1.l.map (Value.int .i64)) ∧ q.1.wf := by
      intro i
      by_cases hi : i < len'
      · have hb := hel' i hi
        rw [List.getElem?_eq_getElem (by omega), hn, Option.bind_eq_some_iff] at hb
        obtain ⟨cs', hcs', hy⟩ := hb
        obtain ⟨_, hcl, hcc⟩ := World.cells?_some hcs'
        match cs', hcl with
        | [u0, u1, u2, u3], _ =>
          obtain ⟨y, e0, e2, e3, hh, hw⟩ := open_item_cells he h0 h1 hel hec h2 h3 o0 o1 o2 o3 c0 c1 c2 c3 hsp hy
          have k0 := hcc 0 (by omega)
          have k1 := hcc 1 (by omega)
          have k2 := hcc 2 (by omega)
          have k3 := hcc 3 (by omega)
          rw [add_zero_addrI] at k0
          exact ⟨⟨y, u1⟩, fun _ => ⟨by rw [k0, e0]; rfl, by rw [k1]; rfl, by rw [k2, e2]; rfl, by rw [k3, e3]; rfl, hh, hw⟩⟩
      · exact ⟨⟨It.none, undef⟩, fun h => absurd h hi⟩
    obtain ⟨f, hf⟩ := Classical.skolem.1 each
    obtain ⟨b, off, o⟩ := a
    by_cases hz : len' = 0
    · subst hz
      exact ⟨[], by unfold maxLen; simp, ⟨_, cap', rfl, .inl rfl⟩, fun _ h => by cases h⟩
    · obtain rfl : o = none := by
        obtain ⟨hx, _⟩ := hf 0 (by omega)
        cases o with
        | none => rfl
        | some u => exact absurd hx (by simp only [Addr.add, World.cell?]; split <;> simp)
      have hbs : b < w.heap.size := by
        obtain ⟨hx, _⟩ := hf 0 (by omega)
        rw [add_plainI] at hx
        exact World.block_lt_of_cell? w _ hx
      refine ⟨(List.range len').map fun i => (f i).1, by simp; omega, ⟨some ⟨b, off, none⟩, cap', by simp, .inr ⟨b, off, rfl, hbs, fun j hj => ?_⟩⟩, fun y hy => ?_⟩
      · simp only [List.length_map, List.length_range] at hj
        obtain ⟨g0, g1, g2, g3, g4, _⟩ := hf j hj
        rw [add_plainI] at g0
        rw [add_plainI, add_plainI] at g1 g2 g3
        have e : ((List.range len').map fun i => (f i).1).getD j It.none = (f j).1 := by simp [List.getD, hj]
        rw [e]
        exact ⟨(f j).2, g0, g1, g2, g3, g4⟩
      · obtain ⟨i, hi, rfl⟩ := List.mem_map.1 hy
        exact (hf i (List.mem_range.1 hi)).2.2.2.2.2


theorem trod_struct5 {H : Type} {enc : TypeId × Value → H} {P : Program} {w : World} {base : Nat} {spare : Nat → Bool} {held : Bool} {t : TypeId} {f0 f1 f2 f3 f4 : Field} {fuel : Nat} {cs : List Value} {x : DataW H × List MemPlace} (ht : P.underlying t = some (.struct #[f0, f1, f2, f3, f4])) (h : DataW.trod enc P w base spare held fuel t cs = some x) :
    ∃ y0 y1 y2 y3 y4 n, DataW.trod enc P w base spare held n f0.type ((cs.drop f0.offset).take (P.cellsOf f0.type)) = some y0 ∧ DataW.trod enc P w base spare held n f1.type ((cs.drop f1.offset).take (P.cellsOf f1.type)) = some y1 ∧
      DataW.trod enc P w base spare held n f2.type ((cs.drop f2.offset).take (P.cellsOf f2.type)) = some y2 ∧ DataW.trod enc P w base spare held n f3.type ((cs.drop f3.offset).take (P.cellsOf f3.type)) = some y3 ∧
      DataW.trod enc P w base spare held n f4.type ((cs.drop f4.offset).take (P.cellsOf f4.type)) = some y4 := by
  obtain ⟨xs, n, _, rfl, hl, hlen, hf⟩ := DataW.trod_struct ht h
  match xs, hlen with
  | [y0, y1, y2, y3, y4], _ => exact ⟨y0, y1, y2, y3, y4, n, by simpa using hf 0 f0 rfl, by simpa using hf 1 f1 rfl, by simpa using hf 2 f2 rfl, by simpa using hf 3 f3 rfl, by simpa using hf 4 f4 rfl⟩
def Mk.wf (m : Mk) : Prop := (Lit.int .i64 m.told).wf = true ∧ m.nodes.length ≤ maxLen ∧ (∀ z ∈ m.nodes, (Lit.int .i64 z).wf = true) ∧ (Lit.int .u64 m.rest).wf = true ∧ m.items.length ≤ maxLen ∧ ∀ y ∈ m.items, y.wf
theorem open_mark {H : Type} {enc : TypeId × Value → H} {P : Program} {w : World} {sp : Nat → Bool} {held : Bool} {t e ti : TypeId} {f0 f1 f2 f3 f4 g0 g1 g2 g3 : Field} {v : Value} {d : DataW H} {qs : List MemPlace} {r : Reach} {b0 : Nat}
    (he : P.underlying t = some (.struct #[f0, f1, f2, f3, f4])) (h0 : P.underlying f0.type = some (.int .i64)) (h1 : P.underlying f1.type = some .bool) (h2 : P.underlying f2.type = some (.slice e)) (hel : P.underlying e = some (.int .i64)) (hec : P.cellsOf e = 1)
    (h3 : P.underlying f3.type = some (.int .u64)) (h4 : P.underlying f4.type = some (.slice ti)) (hti : P.underlying ti = some (.struct #[g0, g1, g2, g3])) (k0 : P.underlying g0.type = some (.int .i64)) (k1 : P.underlying g1.type = some (.slice e)) (k2 : P.underlying g2.type = some (.int .i64)) (k3 : P.underlying g3.type = some (.int .i64)) (hn4 : P.cellsOf ti = 4)
    (p0 : g0.offset = 0) (p1 : g1.offset = 1) (p2 : g2.offset = 2) (p3 : g3.offset = 3) (s0 : P.cellsOf g0.type = 1) (s1 : P.cellsOf g1.type = 1) (s2 : P.cellsOf g2.type = 1) (s3 : P.cellsOf g3.type = 1)
    (hagg : (match P.underlying t with | some (.struct _) | some (.array _ _) => true | _ => false) = true) (hn : P.cellsOf t = 5)
    (o0 : f0.offset = 0) (o1 : f1.offset = 1) (o2 : f2.offset = 2) (o3 : f3.offset = 3) (o4 : f4.offset = 4) (c0 : P.cellsOf f0.type = 1) (c1 : P.cellsOf f1.type = 1) (c2 : P.cellsOf f2.type = 1) (c3 : P.cellsOf f3.type = 1) (c4 : P.cellsOf f4.type = 1)
    (hsp : ∀ b, sp b = true) (hval : Value.okWide P w r b0 t v) (h : DataW.Trod enc P w 0 sp held t v d qs) :
    ∃ (m : Mk) (nv iv : Value), v = mkV m nv iv ∧ Holds w nv (m.nodes.map (Value.int .i64)) ∧ HoldsIL w iv m.items ∧ m.wf := by
  obtain ⟨l, hl, rfl, _⟩ := GoX.arg_agg hagg hn hval
  obtain ⟨fuel, hf⟩ := h
  match l, hl with
  | [u0, u1, u2, u3, u4], _ =>
    obtain ⟨y0, y1, y2, y3, y4, n, q0, q1, q2, q3, q4⟩ := trod_struct5 he (show DataW.trod enc P w 0 sp held fuel t [u0, u1, u2, u3, u4] = some _ from hf)
    rw [o0, c0] at q0
    rw [o1, c1] at q1
    rw [o2, c2] at q2
    rw [o3, c3] at q3
    rw [o4, c4] at q4
    obtain ⟨a, e0, _, w0⟩ := DataW.trod_int h0 q0
    obtain ⟨b, e1, _⟩ := DataW.trod_bool h1 q1
    obtain ⟨c, e3, _, w3⟩ := DataW.trod_int h3 q3
    obtain ⟨zs, hh, hm, hw⟩ := open_rowc h2 hel hec (show DataW.trod enc P w 0 sp held n f2.type [u2] = some y2 by simpa using q2) hsp
    obtain ⟨ys, hy1, hy2, hy3⟩ := open_itemsc h4 hti k0 k1 hel hec k2 k3 hn4 p0 p1 p2 p3 s0 s1 s2 s3 hsp (show DataW.trod enc P w 0 sp held n f4.type [u4] = some y4 by simpa using q4)
    simp only [List.drop_zero, List.take_succ_cons, List.take_zero, List.cons.injEq, and_true, List.drop_succ_cons] at e0 e1 e3
    subst e0 e1 e3
    exact ⟨⟨a, b, zs, c, ys⟩, u2, u4, rfl, hh, hy2, w0, hm, hw, w3, hy1, hy3⟩
end Go.Proofs.YtnecfgmbfkocnaeGreat
