/-
  A ROW OF VALUES THAT CAME IN. No function is named here.
-/
import Derived.Test.YtfjhiaafabmpbabRowsV
import Derived.ChangeSame
import Derived.ChangeArms
import Derived.Deep.Strs
namespace Go.Proofs.Ytfjhiaafabmpbab
open Go.ChangeShapes Go.WideShapes Go.ChangeAt Go.RowKit

def intAt (w : World) (a : Addr) : Int := match w.cell? a with
  | some (.int _ n) => n
  | _ => 0
def textAt (w : World) (a : Addr) : ByteArray := match w.cell? a with
  | some (.string s) => s
  | _ => ⟨#[]⟩
theorem flatV_get (f : Nat → V) : ∀ (n j : Nat) (u : Value), (flatV ((List.range n).map f))[j]? = some u →
    (j < n * 3) ∧ ((j % 3 = 0 ∧ u = .int .i64 (f (j / 3)).k) ∨ (j % 3 = 1 ∧ u = .int .i64 (f (j / 3)).n) ∨ (j % 3 = 2 ∧ u = .string (f (j / 3)).s)) := by
  intro n j u h
  have hl := (List.getElem?_eq_some_iff.1 h).1
  rw [flatV_len] at hl
  simp only [List.length_map, List.length_range] at hl
  refine ⟨hl, ?_⟩
  have hk : j / 3 < ((List.range n).map f).length := by simp; omega
  obtain ⟨h1, h2, h3⟩ := flatV_at ((List.range n).map f) (j / 3) hk
  have e : ((List.range n).map f).getD (j / 3) V.none = f (j / 3) := by
    have : j / 3 < n := by omega
    simp [List.getD, this]
  rw [e] at h1 h2 h3
  rcases (by omega : j % 3 = 0 ∨ j % 3 = 1 ∨ j % 3 = 2) with hm | hm | hm
  · left
    refine ⟨hm, ?_⟩
    rw [show j / 3 * 3 = j by omega, h] at h1
    exact Option.some.inj h1
  · right; left
    refine ⟨hm, ?_⟩
    rw [show j / 3 * 3 + 1 = j by omega, h] at h2
    exact Option.some.inj h2
  · right; right
    refine ⟨hm, ?_⟩
    rw [show j / 3 * 3 + 2 = j by omega, h] at h3
    exact Option.some.inj h3

theorem add_zero_addr (a : Addr) : a.add 0 = a := by simp [Addr.add]
theorem open_values {H : Type} {enc : TypeId × Value → H} {P : Program} {w : World} {sp : Nat → Bool} {held : Bool} {t e : TypeId} {f0 f1 f2 : Field} {v : Value} {d : DataW H} {qs : List MemPlace} {r : Reach} {b0 : Nat}
    (ht : P.underlying t = some (.slice e)) (he : P.underlying e = some (.struct #[f0, f1, f2])) (h0 : P.underlying f0.type = some (.int .i64)) (h1 : P.underlying f1.type = some (.int .i64)) (h2 : P.underlying f2.type = some .string) (hc : P.cellsOf e = 3)
    (o0 : f0.offset = 0) (o1 : f1.offset = 1) (o2 : f2.offset = 2) (c0 : P.cellsOf f0.type = 1) (c1 : P.cellsOf f1.type = 1) (c2 : P.cellsOf f2.type = 1)
    (hval : Value.okWide P w r b0 t v) (h : DataW.Trod enc P w 0 sp held t v d qs) : ∃ ps : List V, ps.length ≤ maxLen ∧ HoldsV w v ps := by
  obtain ⟨a0, len, cap, rfl⟩ := okWide_slice ht hval
  obtain ⟨fuel, hf⟩ := h
  rcases DataW.trod_slice ht hf with ⟨hcs, _⟩ | ⟨a, len', cap', elems, rest, n, _, hcs, _, _, hl, hm, hlen, hel, _, _⟩
  · simp only [Value.cells, List.cons.injEq, Value.slice.injEq, and_true] at hcs
    obtain ⟨rfl, rfl, rfl⟩ := hcs
    exact ⟨[], by unfold maxLen; simp, ⟨none, 0, rfl, .inl rfl⟩⟩
  · simp only [Value.cells, List.cons.injEq, Value.slice.injEq, and_true] at hcs
    obtain ⟨rfl, rfl, rfl⟩ := hcs
    have each : ∀ i, i < len → ∃ (x y : Int) (z : ByteArray), w.cell? (a.add (i * 3)) = some (.int .i64 x) ∧ w.cell? ((a.add (i * 3)).add 1) = some (.int .i64 y) ∧ w.cell? ((a.add (i * 3)).add 2) = some (.string z) := by
      intro i hi
      have hb := hel i hi
      rw [List.getElem?_eq_getElem (by omega), hc, Option.bind_eq_some_iff] at hb
      obtain ⟨cs', hcs', hy⟩ := hb
      obtain ⟨_, hcl, hcc⟩ := World.cells?_some hcs'
      match cs', hcl with
      | [u0, u1, u2], _ =>
        obtain ⟨y0, y1, y2, m, _, _, g0, g1, g2⟩ := Go.Deep.trod_struct3 he hy
        rw [o0, c0] at g0
        rw [o1, c1] at g1
        rw [o2, c2] at g2
        obtain ⟨x, e0, _, w0⟩ := DataW.trod_int h0 g0
        obtain ⟨y, e1, _, w1⟩ := DataW.trod_int h1 g1
        obtain ⟨z, e2, _, w2⟩ := DataW.trod_string h2 g2
        have e0 : u0 = .int .i64 x := by simpa using e0
        have e1 : u1 = .int .i64 y := by simpa using e1
        have e2 : u2 = .string z := by simpa using e2
        have k0 := hcc 0 (by omega)
        have k1 := hcc 1 (by omega)
        have k2 := hcc 2 (by omega)
        rw [add_zero_addr] at k0
        exact ⟨x, y, z, by rw [k0, e0]; rfl, by rw [k1, e1]; rfl, by rw [k2, e2]; rfl⟩
    obtain ⟨b, off, o⟩ := a
    by_cases hz : len = 0
    · subst hz
      exact ⟨[], by unfold maxLen; simp, ⟨_, cap, rfl, .inl rfl⟩⟩
    · obtain rfl : o = none := by
        obtain ⟨x, y, z, hx, _⟩ := each 0 (by omega)
        cases o with
        | none => rfl
        | some u => exact absurd hx (by simp only [Addr.add, World.cell?]; split <;> simp)
      have each' : ∀ i, i < len → w.cell? ⟨b, off + i * 3, none⟩ = some (.int .i64 (intAt w ⟨b, off + i * 3, none⟩)) ∧ w.cell? ⟨b, off + i * 3 + 1, none⟩ = some (.int .i64 (intAt w ⟨b, off + i * 3 + 1, none⟩)) ∧
          w.cell? ⟨b, off + i * 3 + 2, none⟩ = some (.string (textAt w ⟨b, off + i * 3 + 2, none⟩)) := fun i hi => by
        obtain ⟨x, y, z, hx, hy, hz⟩ := each i hi
        rw [add_plain] at hx
        rw [add_plain, add_plain] at hy hz
        unfold intAt textAt
        rw [hx, hy, hz]
        exact ⟨rfl, rfl, rfl⟩
      have hbs : b < w.heap.size := by
        obtain ⟨hx, _⟩ := each' 0 (by omega)
        exact World.block_lt_of_cell? w _ hx
      refine ⟨(List.range len).map fun i => ⟨intAt w ⟨b, off + i * 3, none⟩, intAt w ⟨b, off + i * 3 + 1, none⟩, textAt w ⟨b, off + i * 3 + 2, none⟩⟩, by simp; omega, ⟨some ⟨b, off, none⟩, cap, by simp, .inr ⟨b, off, rfl, hbs, fun j u hj => ?_⟩⟩⟩
      obtain ⟨hjl, hu⟩ := flatV_get _ _ _ _ hj
      obtain ⟨ha, hb', hc'⟩ := each' (j / 3) (by omega)
      rcases hu with ⟨hm, rfl⟩ | ⟨hm, rfl⟩ | ⟨hm, rfl⟩
      · rw [show off + j = off + j / 3 * 3 by omega]; exact ha
      · rw [show off + j = off + j / 3 * 3 + 1 by omega]; exact hb'
      · rw [show off + j = off + j / 3 * 3 + 2 by omega]; exact hc'
end Go.Proofs.Ytfjhiaafabmpbab
