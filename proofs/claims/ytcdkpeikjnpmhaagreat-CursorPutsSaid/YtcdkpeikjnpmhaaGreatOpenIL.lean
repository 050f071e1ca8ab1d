/-
  ROWS OF ITEMS: that came in, and in memory of one's own. No function is named here.
-/
import Derived.Test.YtcdkpeikjnpmhaaGreatOpenI
import Derived.Test.YtcdkpeikjnpmhaaGreatSl
namespace Go.Proofs.YtcdkpeikjnpmhaaGreat
open Go.ChangeShapes Go.WideShapes Go.ChangeAt Go.RowKit

def It.none : It := ⟨0, [], 0, 0⟩
/-- An item in four cells. -/
def ItAt (w : World) (b o : Nat) (y : It) (nv : Value) : Prop :=
  w.cell? ⟨b, o, none⟩ = some (.int .i64 y.c) ∧ w.cell? ⟨b, o + 1, none⟩ = some nv ∧ w.cell? ⟨b, o + 2, none⟩ = some (.int .i64 y.p) ∧ w.cell? ⟨b, o + 3, none⟩ = some (.int .i64 y.r) ∧ Holds w nv (y.l.map (Value.int .i64))
theorem ItAt.below {w w' : World} {b o : Nat} {y : It} {nv : Value} (h : ItAt w b o y nv) (hB : Below w.heap.size w w') : ItAt w' b o y nv := by
  obtain ⟨h0, h1, h2, h3, h4⟩ := h
  have hb := World.block_lt_of_cell? _ _ h0
  exact ⟨(hB.cell (p := ⟨b, o, Option.none⟩) hb).trans h0, (hB.cell (p := ⟨b, o + 1, Option.none⟩) hb).trans h1, (hB.cell (p := ⟨b, o + 2, Option.none⟩) hb).trans h2, (hB.cell (p := ⟨b, o + 3, Option.none⟩) hb).trans h3, h4.below hB⟩
/-- A slice of items. -/
def HoldsIL (w : World) (v : Value) (ys : List It) : Prop := ∃ a cap, v = .slice a ys.length cap ∧ (ys = [] ∨ ∃ b off, a = some ⟨b, off, none⟩ ∧ b < w.heap.size ∧ ∀ j, j < ys.length → ∃ nv, ItAt w b (off + j * 4) (ys.getD j It.none) nv)
theorem HoldsIL.below {w w' : World} {v : Value} {ys : List It} (h : HoldsIL w v ys) (hB : Below w.heap.size w w') : HoldsIL w' v ys := by
  obtain ⟨a, cap, h1, h2⟩ := h
  refine ⟨a, cap, h1, ?_⟩
  rcases h2 with h2 | ⟨b, off, h3, h4, h5⟩
  · exact .inl h2
  · exact .inr ⟨b, off, h3, Nat.lt_of_lt_of_le h4 hB.size, fun j hj => by obtain ⟨nv, h⟩ := h5 j hj; exact ⟨nv, h.below hB⟩⟩
theorem add_zero_addrI (a : Addr) : a.add 0 = a := by simp [Addr.add]
theorem add_plainI {b off : Nat} (j : Nat) : Addr.add ⟨b, off, none⟩ j = ⟨b, off + j, none⟩ := by
  by_cases hj : j = 0
  · subst hj; simp [Addr.add]
  · simp [Addr.add, hj]
theorem open_items {H : Type} {enc : TypeId × Value → H} {P : Program} {w : World} {sp : Nat → Bool} {held : Bool} {st t e : TypeId} {f0 f1 f2 f3 : Field} {v : Value} {d : DataW H} {qs : List MemPlace} {r : Reach} {b0 : Nat}
    (hst : P.underlying st = some (.slice t)) (he : P.underlying t = some (.struct #[f0, f1, f2, f3])) (h0 : P.underlying f0.type = some (.int .i64)) (h1 : P.underlying f1.type = some (.slice e)) (hel : P.underlying e = some (.int .i64)) (hec : P.cellsOf e = 1)
    (h2 : P.underlying f2.type = some (.int .i64)) (h3 : P.underlying f3.type = some (.int .i64)) (hn : P.cellsOf t = 4)
    (o0 : f0.offset = 0) (o1 : f1.offset = 1) (o2 : f2.offset = 2) (o3 : f3.offset = 3) (c0 : P.cellsOf f0.type = 1) (c1 : P.cellsOf f1.type = 1) (c2 : P.cellsOf f2.type = 1) (c3 : P.cellsOf f3.type = 1)
    (hsp : ∀ b, sp b = true) (hval : Value.okWide P w r b0 st v) (h : DataW.Trod enc P w 0 sp held st v d qs) : ∃ ys : List It, ys.length ≤ maxLen ∧ HoldsIL w v ys ∧ ∀ y ∈ ys, y.wf := by
  obtain ⟨a0, len, cap, rfl⟩ := okWide_slice hst hval
  obtain ⟨fuel, hf⟩ := h
  rcases DataW.trod_slice hst hf with ⟨hcs, _⟩ | ⟨a, len', cap', elems, rest, n, _, hcs, _, _, hl, hm, hlen, hel', _, _⟩
  · simp only [Value.cells, List.cons.injEq, Value.slice.injEq, and_true] at hcs
    obtain ⟨rfl, rfl, rfl⟩ := hcs
    exact ⟨[], by unfold maxLen; simp, ⟨none, 0, rfl, .inl rfl⟩, fun _ h => by cases h⟩
  · simp only [Value.cells, List.cons.injEq, Value.slice.injEq, and_true] at hcs
    obtain ⟨rfl, rfl, rfl⟩ := hcs
    have each : ∀ i, ∃ q : It × Value, i < len → w.cell? (a.add (i * 4)) = some (.int .i64 q.1.c) ∧ w.cell? ((a.add (i * 4)).add 1) = some q.2 ∧ w.cell? ((a.add (i * 4)).add 2) = some (.int .i64 q.1.p) ∧ w.cell? ((a.add (i * 4)).add 3) = some (.int .i64 q.1.r) ∧
        Holds w q.2 (q.1.l.map (Value.int .i64)) ∧ q.1.wf := by
      intro i
      by_cases hi : i < len
      · have hb := hel' i hi
        rw [List.getElem?_eq_getElem (by omega), hn, Option.bind_eq_some_iff] at hb
        obtain ⟨cs', hcs', hy⟩ := hb
        obtain ⟨_, hcl, hcc⟩ := World.cells?_some hcs'
        match cs', hcl with
        | [u0, u1, u2, u3], _ =>
          obtain ⟨y, e0, e2, e3, hh, hw⟩ := open_item_cells he h0 h1 hel hec h2 h3 o0 o1 o2 o3 c0 c1 c2 c3 hsp hy
          have k0 := hcc 0 (by omega)
          have k1 := hcc 1 (by omega)
          have k2 := hcc 2 (by omega)
          have k3 := hcc 3 (by omega)
          rw [add_zero_addrI] at k0
          exact ⟨⟨y, u1⟩, fun _ => ⟨by rw [k0, e0]; rfl, by rw [k1]; rfl, by rw [k2, e2]; rfl, by rw [k3, e3]; rfl, hh, hw⟩⟩
      · exact ⟨⟨It.none, undef⟩, fun h => absurd h hi⟩
    obtain ⟨f, hf⟩ := Classical.skolem.1 each
    obtain ⟨b, off, o⟩ := a
    by_cases hz : len = 0
    · subst hz
      exact ⟨[], by unfold maxLen; simp, ⟨_, cap, rfl, .inl rfl⟩, fun _ h => by cases h⟩
    · obtain rfl : o = none := by
        obtain ⟨hx, _⟩ := hf 0 (by omega)
        cases o with
        | none => rfl
        | some u => exact absurd hx (by simp only [Addr.add, World.cell?]; split <;> simp)
      have hbs : b < w.heap.size := by
        obtain ⟨hx, _⟩ := hf 0 (by omega)
        rw [add_plainI] at hx
        exact World.block_lt_of_cell? w _ hx
      refine ⟨(List.range len).map fun i => (f i).1, by simp; omega, ⟨some ⟨b, off, none⟩, cap, by simp, .inr ⟨b, off, rfl, hbs, fun j hj => ?_⟩⟩, fun y hy => ?_⟩
      · simp only [List.length_map, List.length_range] at hj
        obtain ⟨g0, g1, g2, g3, g4, _⟩ := hf j hj
        rw [add_plainI] at g0
        rw [add_plainI, add_plainI] at g1 g2 g3
        have e : ((List.range len).map fun i => (f i).1).getD j It.none = (f j).1 := by simp [List.getD, hj]
        rw [e]
        exact ⟨(f j).2, g0, g1, g2, g3, g4⟩
      · obtain ⟨i, hi, rfl⟩ := List.mem_map.1 hy
        exact (hf i (List.mem_range.1 hi)).2.2.2.2.2

/-! ### In memory of one's own -/
def cellsI (y : It) (nv : Value) : List Value := [.int .i64 y.c, nv, .int .i64 y.p, .int .i64 y.r]
/-- Cells that are items, one behind the other, each row of numbers in memory of its own. -/
inductive ItsIn (ti : TypeId) (w : World) : List Value → List It → Prop
  | nil : ItsIn ti w [] []
  | snoc {xs : List Value} {ys : List It} {y : It} {nv : Value} : ItsIn ti w xs ys → w.ownsRow 0 ti 1 nv y.l.length (y.l.map (Value.int .i64)) → ItsIn ti w (xs ++ cellsI y nv) (ys ++ [y])
theorem ItsIn.kept {ti : TypeId} {w w' : World} {xs : List Value} {ys : List It} (h : ItsIn ti w xs ys) (hB : Below w.heap.size w w') : ItsIn ti w' xs ys := by
  induction h with
  | nil => exact .nil
  | snoc _ hn ih => exact .snoc ih (owns_keep hn hB)
theorem own_ne {w : World} {B1 B2 t1 t2 s1 s2 n1 n2 : Nat} {v1 v2 : Value} {xs1 xs2 : List Value} (h1 : w.ownsRow B1 t1 s1 v1 n1 xs1) (h2 : w.ownsRow B2 t2 s2 v2 n2 xs2) (ht : t1 ≠ t2) : v1.ownBlock = none ∨ v1.ownBlock ≠ v2.ownBlock := by
  rcases h1.2 with ⟨e, _⟩ | ⟨g, cap, cur, e1, _, hc, _⟩
  · exact .inl (by rw [e]; rfl)
  · refine .inr fun e => ?_
    subst e1
    rcases h2.2 with ⟨e2, _⟩ | ⟨g', cap', cur', e2, _, hc', _⟩
    · subst e2; cases e
    · subst e2
      obtain rfl : g = g' := by simpa [Value.ownBlock] using e
      rw [hc] at hc'
      injection hc' with h
      injection h with _ h _
      exact ht h
theorem ItsIn.grown {ti te : TypeId} {w w' : World} {xs : List Value} {ys : List It} {B s n : Nat} {u : Value} {us : List Value} (h : ItsIn ti w xs ys) (hu : w.ownsRow B te s u n us) (ht : ti ≠ te) (hg : w.grownBy w' u.ownBlock) : ItsIn ti w' xs ys := by
  induction h with
  | nil => exact .nil
  | snoc _ hn ih => exact .snoc ih (hn.kept hg (own_ne hn hu ht))
theorem ItsIn.len {ti : TypeId} {w : World} {xs : List Value} {ys : List It} (h : ItsIn ti w xs ys) : xs.length = ys.length * 4 := by
  induction h with
  | nil => rfl
  | snoc _ _ ih => simp [cellsI, ih]; omega
theorem ItsIn.at {ti : TypeId} {w : World} {xs : List Value} {ys : List It} (h : ItsIn ti w xs ys) : ∀ j, j < ys.length → ∃ nv, xs[j * 4]? = some (.int .i64 (ys.getD j It.none).c) ∧ xs[j * 4 + 1]? = some nv ∧ xs[j * 4 + 2]? = some (.int .i64 (ys.getD j It.none).p) ∧
    xs[j * 4 + 3]? = some (.int .i64 (ys.getD j It.none).r) ∧ Holds w nv ((ys.getD j It.none).l.map (Value.int .i64)) := by
  induction h with
  | nil => intro j hj; simp at hj
  | @snoc xs ys y nv h hn ih =>
    intro j hj
    have hl := h.len
    rcases Nat.lt_or_ge j ys.length with hlt | hge
    · obtain ⟨nv', g0, g1, g2, g3, g4⟩ := ih j hlt
      have e : (ys ++ [y]).getD j It.none = ys.getD j It.none := by simp [List.getD, List.getElem?_append_left hlt]
      rw [e]
      exact ⟨nv', by rw [List.getElem?_append_left (by omega)]; exact g0, by rw [List.getElem?_append_left (by omega)]; exact g1, by rw [List.getElem?_append_left (by omega)]; exact g2, by rw [List.getElem?_append_left (by omega)]; exact g3, g4⟩
    · obtain rfl : j = ys.length := by simp at hj; omega
      have e : (ys ++ [y]).getD ys.length It.none = y := by simp [List.getD]
      rw [e]
      refine ⟨nv, ?_, ?_, ?_, ?_, holds_of_owns hn⟩
      · rw [List.getElem?_append_right (by omega), show ys.length * 4 - xs.length = 0 by omega]; rfl
      · rw [List.getElem?_append_right (by omega), show ys.length * 4 + 1 - xs.length = 1 by omega]; rfl
      · rw [List.getElem?_append_right (by omega), show ys.length * 4 + 2 - xs.length = 2 by omega]; rfl
      · rw [List.getElem?_append_right (by omega), show ys.length * 4 + 3 - xs.length = 3 by omega]; rfl
theorem holdsIL_of {ti : TypeId} {w : World} {base : Nat} {e : TypeId} {v : Value} {n : Nat} {xs : List Value} {ys : List It} (h : w.ownsRow base e 4 v n xs) (hi : ItsIn ti w xs ys) (hn : n = ys.length) : HoldsIL w v ys := by
  subst hn
  obtain ⟨hl, h⟩ := h
  rcases h with ⟨rfl, hz⟩ | ⟨g, cap, cur, rfl, hg, hcell, hnc, hcm, hsz, htake⟩
  · exact ⟨none, 0, by rw [hz], .inl (List.eq_nil_of_length_eq_zero hz)⟩
  · refine ⟨some ⟨g, 0, none⟩, cap, rfl, .inr ⟨g, 0, rfl, (Array.getElem?_eq_some_iff.1 hcell).1, fun j hj => ?_⟩⟩
    have hat : ∀ i u, xs[i]? = some u → w.cell? ⟨g, i, none⟩ = some u := fun i u hu => by
      rw [← htake, List.getElem?_take] at hu
      split at hu
      · simp only [World.cell?, hcell]
        simpa using hu
      · cases hu
    obtain ⟨nv, g0, g1, g2, g3, g4⟩ := hi.at j hj
    rw [Nat.zero_add]
    exact ⟨nv, hat _ _ g0, hat _ _ g1, hat _ _ g2, hat _ _ g3, g4⟩
end Go.Proofs.YtcdkpeikjnpmhaaGreat
