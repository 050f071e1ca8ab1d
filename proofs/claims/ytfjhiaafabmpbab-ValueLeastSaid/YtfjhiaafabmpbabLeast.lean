/-
  THE LEAST OF VALUES, by contract.
-/
import Derived.Test.YtfjhiaafabmpbabRowsV
import Derived.Laws.ResultCell
import Derived.Laws.Rows
namespace Go.Proofs.Ytfjhiaafabmpbab
open Go.ChangeShapes Go.WideShapes Go.ChangeAt Go.RowKit

/-- Where the least of the first k values stands. -/
def bestV (ps : List V) : Nat → Nat
  | 0 => 0
  | k + 1 => if vcmp (ps.getD k V.none) (ps.getD (bestV ps k) V.none) < 0 then k else bestV ps k
def cellsV (p : V) : Obj := .cells #[.int .i64 p.k, .int .i64 p.n, .string p.s] 24
set_option maxHeartbeats 1600000 in
theorem least_c (v : Value) (ps : List V) (w : World) (hv : HoldsV w v ps) (h0 : 0 < ps.length) (h1 : ps.length ≤ 1000) : Calls Try.prog 5 #[v] w fun e w' =>
    e = .returned (.tuple #[.agg #[.int .i64 (ps.getD (bestV ps ps.length) V.none).k, .int .i64 (ps.getD (bestV ps ps.length) V.none).n, .string (ps.getD (bestV ps ps.length) V.none).s], .bool true]) ∧ Below w.heap.size w w' := by
  obtain ⟨a, cap, rfl, hrow⟩ := hv
  obtain ⟨b, off, rfl, hb, hc0, hc1, hc2⟩ := values_at hrow h0
  have hrow' := fun k hk => values_at (k := k) hrow hk
  simp only [Nat.zero_mul, Nat.add_zero] at hc0 hc1 hc2
  have hl0 : ((ps.length : Int) == 0) = false := beq_eq_false_iff_ne.2 (by omega)
  have hl1 : (0 : Int) < (ps.length : Int) := by omega
  obtain ⟨p0, hp0⟩ : ∃ p0, Hid (ps.getD (bestV ps 0) V.none = p0) := ⟨_, (rfl : _ = _)⟩
  have hp0' : ps.getD 0 V.none = p0 := hp0.out
  rw [hp0'] at hc0 hc1 hc2
  clear hp0'
  have hbest : ∀ k, Hid (bestV ps (k + 1) = if vcmp (ps.getD k V.none) (ps.getD (bestV ps k) V.none) < 0 then k else bestV ps k) := fun k => (rfl : _ = _)
  obtain ⟨get, hget⟩ : ∃ get : Nat → V, Hid (∀ k, ps.getD k V.none = get k) := ⟨fun k => ps.getD k V.none, (fun _ => rfl : ∀ _, _ = _)⟩
  obtain ⟨N, hN⟩ : ∃ N, Hid (ps.length = N) := ⟨_, (rfl : _ = _)⟩
  go_enter Try.func5, Try.ntmps5
  go_wp2_with fail
  go_loopw [16] (fun i wr => ∃ k : Nat, ∃ m : V, k ≤ ps.length ∧ i = .int .i64 k ∧ Hid (ps.getD (bestV ps k) V.none = m) ∧ Below w.heap.size w wr ∧ wr.heap[w.heap.size]? = some (cellsV V.none) ∧ wr.heap[w.heap.size + 1]? = some (cellsV m))
    (fun i _ => ps.length - (intOf i).toNat)
  case atStart =>
    refine ⟨0, p0, Nat.zero_le _, rfl, hp0, ((Below.refl _ _).alloc (Nat.le_refl _) _).alloc (by show _ ≤ (w.heap.push _).size; simp) _, ?_, ?_⟩
    · show ((w.heap.push _).push _)[w.heap.size]? = _
      simp [Array.getElem?_push, cellsV, V.none]
    · exact heap_alloc2_new _ _ _
  case round =>
    obtain ⟨k, m, hk, rfl, hm, hB, hA, hM⟩ := hrel
    have hsz := hB.size
    have hsz1 : w.heap.size + 1 < wr.heap.size := (Array.getElem?_eq_some_iff.1 hM).1
    by_cases hlt : k < ps.length
    · obtain ⟨b', off', e', hb', hx0, hx1, hx2⟩ := values_at hrow hlt
      cases e'
      have hx0 := (hB.cell (p := ⟨b, off + k * 3, none⟩) hb').trans hx0
      have hx1 := (hB.cell (p := ⟨b, off + k * 3 + 1, none⟩) hb').trans hx1
      have hx2 := (hB.cell (p := ⟨b, off + k * 3 + 2, none⟩) hb').trans hx2
      obtain ⟨x, hx⟩ : ∃ x, Hid (ps.getD k V.none = x) := ⟨_, (rfl : _ = _)⟩
      rw [hx.out] at hx0 hx1 hx2
      have hb1 := (hbest k).out
      rw [hm.out, hx.out] at hb1
      have hcall := fun w => vcmp_c x.k x.n m.k m.n x.s m.s w
      obtain ⟨c, hc⟩ : ∃ c, Hid (vcmp x m = c) := ⟨_, (rfl : _ = _)⟩
      have hcall : ∀ w, Calls Try.prog 9 #[.agg #[.int .i64 x.k, .int .i64 x.n, .string x.s], .agg #[.int .i64 m.k, .int .i64 m.n, .string m.s]] w fun e w' => e = .returned (.int .i64 c) ∧ Below w.heap.size w w' := by
        rw [← hc.out]; exact hcall
      rw [hc.out] at hb1
      have hb1 : Hid (bestV ps (k + 1) = if c < 0 then k else bestV ps k) := hb1
      obtain ⟨⟨g0, g1, g2⟩, r0, r1, r2⟩ := box_facts hM
      clear hc hget hN hrow' hc0 hc1 hc2 hp0 hbest
      have hk1 : (k : Int) < (ps.length : Int) := by omega
      go_wp2_with fail
      refine (hcall _).mono ?_
      rintro e w2 ⟨rfl, hB2⟩
      have hs2 : (wr.alloc (.cells #[.int .i64 x.k, .int .i64 x.n, .string x.s] 24)).heap.size = wr.heap.size + 1 := by show (wr.heap.push _).size = _; simp
      have hBw : Below w.heap.size w w2 := (hB.alloc hsz _).trans (hB2.mono (by rw [hs2]; omega))
      have hA2 : w2.heap[w.heap.size]? = some (cellsV V.none) := (hB2.block _ (by rw [hs2]; omega)).trans ((heap_alloc_old _ _ (by omega)).trans hA)
      have hM2 : w2.heap[w.heap.size + 1]? = some (cellsV m) := (hB2.block _ (by rw [hs2]; omega)).trans ((heap_alloc_old _ _ (by omega)).trans hM)
      have hX2 : w2.heap[wr.heap.size]? = some (cellsV x) := (hB2.block _ (by rw [hs2]; omega)).trans (heap_alloc_new _ _)
      clear g0 g1 g2 r0 r1 r2 hB2 hs2 hcall hA hM hx0 hx1 hx2
      obtain ⟨⟨g0, g1, g2⟩, r0, r1, r2⟩ := box_facts hM2
      obtain ⟨⟨y0, y1, y2⟩, -⟩ := box_facts hX2
      by_cases hlt2 : c < 0
      · have hnew : Hid (ps.getD (bestV ps (k + 1)) V.none = x) := by
          show _ = _
          rw [hb1.out, if_pos hlt2]; exact hx.out
        clear hb1
        go_wp2
        go_roundw
        case rel => exact ⟨k + 1, x, by omega, by go_num, hnew, ((hBw.setCell (by show _ ≤ _ + 1; omega) _).setCell (by show _ ≤ _ + 1; omega) _).setCell (by show _ ≤ _ + 1; omega) _,
            (((heap_set_other (by show _ + 1 ≠ _; omega)).trans (heap_set_other (by show _ + 1 ≠ _; omega))).trans (heap_set_other (by show _ + 1 ≠ _; omega))).trans hA2, heap_set3 hM2 _ _ _⟩
        case measure => simp [intOf]; omega
      · have hnew : Hid (ps.getD (bestV ps (k + 1)) V.none = m) := by
          show _ = _
          rw [hb1.out, if_neg hlt2]; exact hm.out
        clear hb1
        go_wp2
        go_roundw
        case rel => exact ⟨k + 1, m, by omega, by go_num, hnew, hBw, hA2, hM2⟩
        case measure => simp [intOf]; omega
    · have hk1 : ¬ (k : Int) < (ps.length : Int) := by omega
      have hkl : Hid (k = ps.length) := by show _ = _; omega
      obtain ⟨⟨g0, g1, g2⟩, r0, r1, r2⟩ := box_facts hM
      obtain ⟨⟨y0, y1, y2⟩, q0, q1, q2⟩ := box_facts hA
      clear hget hN hrow' hc0 hc1 hc2 hp0 hbest
      go_wp2
      have hR := run_loadVar_row (P := Try.prog) _ w.heap.size 24 24 _ _ _ (heap_set3 hA (.int .i64 m.k) (.int .i64 m.n) (.string m.s)) Try.underlying24 rfl (by kernel_rfl)
      refine bodyPost_ret (v := .tuple #[.agg #[.int .i64 m.k, .int .i64 m.n, .string m.s], .bool true]) ((results_cell_tmp rfl _ _ _).trans (by simp [asAddr, hR, Result.andThen])) rfl ⟨?_, ((hB.setCell (Nat.le_refl _) _).setCell (Nat.le_refl _) _).setCell (Nat.le_refl _) _⟩
      have e := hm.out
      rw [hkl.out] at e
      first
        | rw [e]
        | (rw [List.getD_eq_getElem?_getD] at e; rw [e])
end Go.Proofs.Ytfjhiaafabmpbab
