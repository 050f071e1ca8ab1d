/-
  A ROW OF PAIRS THAT CAME IN. No function is named here.
-/
import Derived.Test.YtfjhiaafabmpbafPairs2
import Derived.ChangeSame
namespace Go.Proofs.Ytfjhiaafabmpbaf
open Go.ChangeShapes Go.WideShapes Go.ChangeAt Go.RowKit

def numAt (w : World) (a : Addr) : Int := match w.cell? a with
  | some (.int _ n) => n
  | _ => 0
theorem flat_get (f : Nat → Int × Int) : ∀ (n j : Nat) (u : Value), (flat ((List.range n).map f))[j]? = some u → (j < n * 2) ∧ ((j % 2 = 0 ∧ u = .int .u32 (f (j / 2)).1) ∨ (j % 2 = 1 ∧ u = .int .u32 (f (j / 2)).2)) := by
  intro n j u h
  have hl := (List.getElem?_eq_some_iff.1 h).1
  rw [flat_len] at hl
  simp only [List.length_map, List.length_range] at hl
  refine ⟨hl, ?_⟩
  have hk : j / 2 < ((List.range n).map f).length := by simp; omega
  obtain ⟨h1, h2⟩ := flat_at ((List.range n).map f) (j / 2) hk
  have e : ((List.range n).map f).getD (j / 2) (0, 0) = f (j / 2) := by
    have : j / 2 < n := by omega
    simp [List.getD, this]
  rw [e] at h1 h2
  rcases Nat.mod_two_eq_zero_or_one j with hm | hm
  · left
    refine ⟨hm, ?_⟩
    rw [show j / 2 * 2 = j by omega, h] at h1
    exact Option.some.inj h1
  · right
    refine ⟨hm, ?_⟩
    rw [show j / 2 * 2 + 1 = j by omega, h] at h2
    exact Option.some.inj h2

theorem add_zero_addr (a : Addr) : a.add 0 = a := by simp [Addr.add]
theorem open_pairs {H : Type} {enc : TypeId × Value → H} {P : Program} {w : World} {sp : Nat → Bool} {held : Bool} {t e : TypeId} {f0 f1 : Field} {v : Value} {d : DataW H} {qs : List MemPlace} {r : Reach} {b0 : Nat}
    (ht : P.underlying t = some (.slice e)) (he : P.underlying e = some (.struct #[f0, f1])) (h0 : P.underlying f0.type = some (.int .u32)) (h1 : P.underlying f1.type = some (.int .u32)) (hc : P.cellsOf e = 2)
    (o0 : f0.offset = 0) (o1 : f1.offset = 1) (c0 : P.cellsOf f0.type = 1) (c1 : P.cellsOf f1.type = 1)
    (hval : Value.okWide P w r b0 t v) (h : DataW.Trod enc P w 0 sp held t v d qs) : ∃ ps : List (Int × Int), ps.length ≤ maxLen ∧ HoldsP w v ps ∧ WfP ps := by
  obtain ⟨a0, len, cap, rfl⟩ := okWide_slice ht hval
  obtain ⟨fuel, hf⟩ := h
  rcases DataW.trod_slice ht hf with ⟨hcs, _⟩ | ⟨a, len', cap', elems, rest, n, _, hcs, _, _, hl, hm, hlen, hel, _, _⟩
  · simp only [Value.cells, List.cons.injEq, Value.slice.injEq, and_true] at hcs
    obtain ⟨rfl, rfl, rfl⟩ := hcs
    exact ⟨[], by unfold maxLen; simp, ⟨none, 0, rfl, .inl rfl⟩, fun _ h => by cases h⟩
  · simp only [Value.cells, List.cons.injEq, Value.slice.injEq, and_true] at hcs
    obtain ⟨rfl, rfl, rfl⟩ := hcs
    have each : ∀ i, i < len → ∃ x y : Int, w.cell? (a.add (i * 2)) = some (.int .u32 x) ∧ w.cell? ((a.add (i * 2)).add 1) = some (.int .u32 y) ∧ (Lit.int .u32 x).wf = true ∧ (Lit.int .u32 y).wf = true := by
      intro i hi
      have hb := hel i hi
      rw [List.getElem?_eq_getElem (by omega), hc, Option.bind_eq_some_iff] at hb
      obtain ⟨cs', hcs', hy⟩ := hb
      obtain ⟨_, hcl, hcc⟩ := World.cells?_some hcs'
      match cs', hcl with
      | [u0, u1], _ =>
        obtain ⟨y0, y1, m, _, _, g0, g1⟩ := trod_struct2 he hy
        rw [o0, c0] at g0
        rw [o1, c1] at g1
        obtain ⟨x, e0, _, w0⟩ := DataW.trod_int h0 g0
        obtain ⟨y, e1, _, w1⟩ := DataW.trod_int h1 g1
        have e0 : u0 = .int .u32 x := by simpa using e0
        have e1 : u1 = .int .u32 y := by simpa using e1
        have k0 := hcc 0 (by omega)
        have k1 := hcc 1 (by omega)
        rw [add_zero_addr] at k0
        exact ⟨x, y, by rw [k0, e0]; rfl, by rw [k1, e1]; rfl, w0, w1⟩
    obtain ⟨b, off, o⟩ := a
    by_cases hz : len = 0
    · subst hz
      exact ⟨[], by unfold maxLen; simp, ⟨_, cap, rfl, .inl rfl⟩, fun _ h => by cases h⟩
    · obtain rfl : o = none := by
        obtain ⟨x, y, hx, _⟩ := each 0 (by omega)
        cases o with
        | none => rfl
        | some u => exact absurd hx (by simp only [Addr.add, World.cell?]; split <;> simp)
      have each' : ∀ i, i < len → w.cell? ⟨b, off + i * 2, none⟩ = some (.int .u32 (numAt w ⟨b, off + i * 2, none⟩)) ∧ w.cell? ⟨b, off + i * 2 + 1, none⟩ = some (.int .u32 (numAt w ⟨b, off + i * 2 + 1, none⟩)) ∧
          (Lit.int .u32 (numAt w ⟨b, off + i * 2, none⟩)).wf = true ∧ (Lit.int .u32 (numAt w ⟨b, off + i * 2 + 1, none⟩)).wf = true := fun i hi => by
        obtain ⟨x, y, hx, hy, wx, wy⟩ := each i hi
        rw [add_plain] at hx
        rw [add_plain, add_plain] at hy
        unfold numAt
        rw [hx, hy]
        exact ⟨rfl, rfl, wx, wy⟩
      have hbs : b < w.heap.size := by
        obtain ⟨hx, _⟩ := each' 0 (by omega)
        exact World.block_lt_of_cell? w _ hx
      refine ⟨(List.range len).map fun i => (numAt w ⟨b, off + i * 2, none⟩, numAt w ⟨b, off + i * 2 + 1, none⟩), by simp; omega, ⟨some ⟨b, off, none⟩, cap, by simp, .inr ⟨b, off, rfl, hbs, fun j u hj => ?_⟩⟩, fun p hp => ?_⟩
      · obtain ⟨hjl, hu⟩ := flat_get _ _ _ _ hj
        obtain ⟨ha, hb', _⟩ := each' (j / 2) (by omega)
        rcases hu with ⟨hm, rfl⟩ | ⟨hm, rfl⟩
        · rw [show off + j = off + j / 2 * 2 by omega]; exact ha
        · rw [show off + j = off + j / 2 * 2 + 1 by omega]; exact hb'
      · obtain ⟨i, hi, rfl⟩ := List.mem_map.1 hp
        obtain ⟨_, _, wx, wy⟩ := each' i (List.mem_range.1 hi)
        have b1 := bounds_u32 wx
        have b2 := bounds_u32 wy
        exact ⟨b1.1, b1.2, b2.1, b2.2⟩
end Go.Proofs.Ytfjhiaafabmpbaf
