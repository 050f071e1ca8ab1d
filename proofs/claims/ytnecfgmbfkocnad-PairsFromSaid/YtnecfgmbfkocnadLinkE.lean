/-
  THE ENDS OF LINKS, by contract.
-/
import Derived.Test.YtnecfgmbfkocnadLinkR
import Derived.Test.YtnecfgmbfkocnadShelf
import Derived.Sort.OwnSortedInts
namespace Go.Proofs.Ytnecfgmbfkocnad
open Go.ChangeShapes Go.WideShapes Go.ChangeAt Go.RowKit

/-- A row of numbers, the first k of them told. -/
def nrow (ts : List Int) (k : Nat) : List Value := (ts.take k).map (Value.int .i64) ++ List.replicate (ts.length - k) (.int .i64 0)
theorem nrow_len (ts : List Int) (k : Nat) (hk : k ≤ ts.length) : (nrow ts k).length = ts.length := by
  simp [nrow, List.length_take]; omega
theorem nrow_zero (ts : List Int) : nrow ts 0 = List.replicate ts.length (.int .i64 0) := by simp [nrow]
theorem nrow_full (ts : List Int) : nrow ts ts.length = ts.map (Value.int .i64) := by simp [nrow]
theorem nrow_set (ts : List Int) (k : Nat) (hk : k < ts.length) : (nrow ts k).set k (.int .i64 (ts.getD k 0)) = nrow ts (k + 1) := by
  apply List.ext_getElem?
  intro j
  rw [List.getElem?_set]
  have hl := nrow_len ts k (by omega)
  by_cases hj : k = j
  · subst hj
    rw [if_pos rfl, if_pos (by rw [hl]; exact hk)]
    unfold nrow
    rw [List.getElem?_append_left (by simp [List.length_take]; omega)]
    simp [List.getD, hk]
  · rw [if_neg hj]
    unfold nrow
    by_cases hlt : j < k
    · rw [List.getElem?_append_left (by simp [List.length_take]; omega), List.getElem?_append_left (by simp [List.length_take]; omega)]
      simp [hlt, show j < k + 1 by omega]
    · rw [List.getElem?_append_right (by simp [List.length_take]; omega), List.getElem?_append_right (by simp [List.length_take]; omega)]
      simp only [List.length_map, List.length_take, List.getElem?_replicate]
      rw [Nat.min_eq_left (by omega), Nat.min_eq_left (by omega)]
      by_cases h2 : j < ts.length
      · rw [if_pos (by omega), if_pos (by omega)]
      · rw [if_neg (by omega), if_neg (by omega)]
theorem infoI1 : (Try.prog.info? 3).map (fun i => (i.zero, i.size, i.bytes)) = some (some (.int .i64 0), 1, 8) := by kernel_rfl
/-- Behind Sort and Compact. -/
def endsOf (zs : List Int) : List Int := Lib.compact (zs.mergeSort fun x y => decide (x ≤ y))
theorem own_parts {w : World} {B g n c : Nat} {e : TypeId} {zs : List Int} (h : w.ownsRow B e 1 (.slice (some ⟨g, 0, none⟩) n c) n (zs.map (Value.int .i64))) (hn : zs.length = n) :
    ∃ cur, B ≤ g ∧ w.heap[g]? = some (.cells cur e) ∧ n ≤ c ∧ c ≤ maxLen ∧ cur.size = c * 1 ∧ cur.toList.take zs.length = zs.map (Value.int .i64) := by
  rcases h.2 with ⟨h1, _⟩ | ⟨g', cap, cur, h1, hg, h3, h4, h5, h6, h7⟩
  · cases h1
  · simp only [Value.slice.injEq, Option.some.injEq, Addr.mk.injEq] at h1
    obtain ⟨⟨rfl, _⟩, _, rfl⟩ := h1
    exact ⟨cur, hg, h3, h4, h5, h6, by rw [hn]; simpa using h7⟩
theorem ends_of_row {w : World} {B g c : Nat} {e : TypeId} {zs : List Int} (h : w.ownsRow B e 1 (.slice (some ⟨g, 0, none⟩) zs.length c) zs.length (zs.map (Value.int .i64))) (hc : zs.length ≤ 1000) :
    Calls Try.prog 14 #[.slice (some ⟨g, 0, none⟩) zs.length c] w fun e' w' => e' = .returned (.tuple #[]) ∧
      w'.ownsRow B e 1 (.slice (some ⟨g, 0, none⟩) zs.length c) zs.length ((zs.mergeSort fun x y => decide (x ≤ y)).map (Value.int .i64)) ∧ Below B w w' := by
  obtain ⟨cur, h1, h2, h3, h4, h5, h6⟩ := own_parts h rfl
  refine (Try.slices_Sort_int g 0 c zs w (holds_of_blockI h2 h6) (Array.getElem?_eq_some_iff.1 h2).1 (by omega)).mono ?_
  rintro e' w' ⟨he, n, os, rfl⟩
  refine ⟨he, ownsRow_sortedI (by simp) h1 h2 h3 h4 h5, ?_⟩
  exact (Below.refl _ _).grown (grownBy_sortedI _) (Nat.le_of_lt (Nat.lt_of_le_of_lt h1 (Array.getElem?_eq_some_iff.1 h2).1)) (fun j hj => by cases hj; exact h1)
theorem compact_of_row {w : World} {B g c : Nat} {e : TypeId} {zs : List Int} (h : w.ownsRow B e 1 (.slice (some ⟨g, 0, none⟩) zs.length c) zs.length (zs.map (Value.int .i64))) (hc : zs.length ≤ 1000) :
    Calls Try.prog 15 #[.slice (some ⟨g, 0, none⟩) zs.length c] w fun e' w' => ∃ c', e' = .returned (.slice (some ⟨g, 0, none⟩) (Lib.compact zs).length c') ∧
      (∀ j u, ((Lib.compact zs).map (Value.int .i64))[j]? = some u → w'.cell? ⟨g, 0 + j, none⟩ = some u) ∧ g < w'.heap.size ∧ Below B w w' := by
  obtain ⟨cur, h1, h2, h3, h4, h5, h6⟩ := own_parts h rfl
  have hg := (Array.getElem?_eq_some_iff.1 h2).1
  have hle := Lib.compact_length_le zs
  refine (Try.slices_Compact_int g 0 c zs w (holds_of_blockI h2 h6) (by omega) h3).mono ?_
  rintro e' w' ⟨he, q, rfl⟩
  have e0 : ∀ x : World, x = Sort.grow x #[] := fun x => (Sort.grow_empty x).symm
  have hl : (Lib.compact zs ++ List.replicate (zs.length - (Lib.compact zs).length) 0).length = zs.length := by simp; omega
  have hown := ownsRow_sortedI (n := q) (os := #[]) (ts := Lib.compact zs ++ List.replicate (zs.length - (Lib.compact zs).length) 0) hl h1 h2 h3 h4 h5
  rw [← e0] at hown
  refine ⟨c, he, fun j u hj => ?_, by simpa using hg, ?_⟩
  · have hj' := (List.getElem?_eq_some_iff.1 hj).1
    simp only [List.length_map] at hj'
    rw [hown.cellAt (0 + j) (by omega)]
    simp only [List.map_append, Nat.zero_add]
    rw [List.getElem?_append_left (by simpa using hj')]
    exact hj
  · rw [e0 (Sort.putRow _ _ _ _ _)]
    exact (Below.refl _ _).grown (grownBy_sortedI _) (Nat.le_of_lt (Nat.lt_of_le_of_lt h1 hg)) (fun j hj => by cases hj; exact h1)
set_option maxHeartbeats 3200000 in
set_option maxRecDepth 100000 in
theorem lends_c (v : Value) (ps : List Lk) (w : World) (hv : HoldsR linkR w v ps) (hx : ps.length ≤ 1000) :
    Calls Try.prog 7 #[v, .bool false] w fun e w' => ∃ c', e = .returned (.slice (some ⟨w.heap.size, 0, none⟩) (endsOf (ps.map Lk.a)).length c') ∧ RowAt w' (some ⟨w.heap.size, 0, none⟩) ((endsOf (ps.map Lk.a)).map (Value.int .i64)) ∧ w.heap.size < w'.heap.size ∧ Below w.heap.size w w' := by
  obtain ⟨a, cap, rfl, hra⟩ := hv
  obtain ⟨i0, hi, hz0, hz1, hz2⟩ := info_parts infoI1
  replace hra := hidden hra
  obtain ⟨ts, hts⟩ : ∃ ts, ts = ps.map Lk.a := ⟨_, rfl⟩
  have htl : Hid (ts.length = ps.length) := by show _ = _; rw [hts, List.length_map]
  have hget : Hid (∀ k, k < ps.length → ts.getD k 0 = (ps.getD k Lk.none).a) := fun k hk => by
    rw [hts]; simp [List.getD, hk]
  rw [← hts]
  replace hts := hidden hts
  go_enter Try.func7, Try.ntmps7
  go_wp2_with (refine wpList_make_full _ rfl _ _ 29 rfl w.heap.size 3 i0 (.int .i64 0) 1 Try.underlying29 hi hz0 hz1 .i64 .i64 _ _ ps.length rfl rfl ?d1 ?d2 ?d3 ?d4 ?d5 ?_)
  case d1 => rfl
  case d2 => rfl
  case d3 => rw [hz2]; omega
  case d4 => unfold maxLen; omega
  case d5 => omega
  intro w0 hown0 hgrow0
  have hB0 : Hid (Below w.heap.size w w0) := (Below.refl _ _).grown hgrow0 (Nat.le_refl _) (fun j hj => by cases hj)
  have hown1 : Hid (w0.ownsRow w.heap.size 3 1 (.slice (some ⟨w.heap.size, 0, none⟩) ps.length ps.length) ps.length (nrow ts 0)) := by
    show World.ownsRow _ _ _ _ _ _ _
    rw [nrow_zero, htl.out]
    simpa [madeCells, Value.cells, Nat.mod_one, List.map_const'] using hown0
  clear hown0 hgrow0
  go_wp2
  go_loopw [13] (fun i wr => ∃ k : Nat, k ≤ ps.length ∧ i = .int .i64 k ∧ Hid (wr.ownsRow w.heap.size 3 1 (.slice (some ⟨w.heap.size, 0, none⟩) ps.length ps.length) ps.length (nrow ts k)) ∧ Hid (Below w.heap.size w wr))
    (fun i _ => ps.length - (intOf i).toNat)
  case atStart => exact ⟨0, Nat.zero_le _, rfl, hown1, hB0⟩
  case round =>
    clear hB0 hown1
    obtain ⟨k, hk, rfl, hown, hnx⟩ := hrel
    by_cases hlt : k < ps.length
    · obtain ⟨b, off, rfl, hb, hc1, hc2, hc3, hc4⟩ := link_at (hra.out.below hnx.out) hlt
      have hgk := hidden (hget.out k hlt)
      generalize ps.getD k Lk.none = p at *
      obtain ⟨pa, pb, pc, pn⟩ := p
      simp only at hc1 hc2 hc3 hc4 hgk
      have hlt0 : w.heap.size < wr.heap.size := by
        rcases hown.out.2 with ⟨h, _⟩ | ⟨g, _, _, h, _, h3, _⟩
        · cases h
        · simp only [Value.slice.injEq, Option.some.injEq, Addr.mk.injEq] at h
          rw [← h.1.1] at h3
          exact (Array.getElem?_eq_some_iff.1 h3).1
      have hne : w.heap.size ≠ wr.heap.size := by omega
      replace hlt0 := hidden hlt0
      have hX := hidden (heap_alloc_new wr (.cells #[.int .i64 pa, .int .i64 pb, .int .i64 pc, .int .u64 pn] 28))
      obtain ⟨⟨b0, b1, b2, b3⟩, -⟩ := box4f hX.out
      have hownA := hidden (hown.out.alloc (.cells #[.int .i64 pa, .int .i64 pb, .int .i64 pc, .int .u64 pn] 28))
      have hBA : Hid (Below w.heap.size w (wr.alloc (.cells #[.int .i64 pa, .int .i64 pb, .int .i64 pc, .int .u64 pn] 28))) := hnx.out.alloc (Nat.le_of_lt hlt0.out) _
      obtain ⟨u1, hcs1⟩ : ∃ u, (wr.alloc (.cells #[.int .i64 pa, .int .i64 pb, .int .i64 pc, .int .u64 pn] 28)).cell? ⟨w.heap.size, k, none⟩ = some u := ⟨_, by rw [hownA.out.cellAt k (by omega)]; exact List.getElem?_eq_getElem (by rw [nrow_len _ _ (by rw [htl.out]; omega), htl.out]; exact hlt)⟩
      have hfr : (wr.alloc (.cells #[.int .i64 pa, .int .i64 pb, .int .i64 pc, .int .u64 pn] 28)).frozen? ⟨w.heap.size, k, none⟩ = false := hownA.out.frozenAt k
      have hst := (hownA.out.stored k (.int .i64 pa)).1
      rw [show (Value.int .i64 pa) = .int .i64 (ts.getD k 0) by rw [hgk.out], nrow_set ts k (by rw [htl.out]; exact hlt), hgk.out] at hst
      replace hst := hidden hst
      have hBY : Hid (Below w.heap.size w ((wr.alloc (.cells #[.int .i64 pa, .int .i64 pb, .int .i64 pc, .int .u64 pn] 28)).setCell ⟨w.heap.size, k, none⟩ (.int .i64 pa))) := hBA.out.setCell (Nat.le_refl _) _
      clear hown hownA hgk hget
      go_wp2
      go_roundw
      case rel => exact ⟨k + 1, by omega, by go_num, hst, hBY⟩
      case measure => simp [intOf]; omega
    · obtain rfl : k = ps.length := by omega
      have hf : wr.ownsRow w.heap.size 3 1 (.slice (some ⟨w.heap.size, 0, none⟩) ts.length ps.length) ts.length (ts.map (Value.int .i64)) := by
        rw [← nrow_full, htl.out]; exact hown.out
      have hS := ends_of_row hf (by rw [htl.out]; omega)
      rw [htl.out] at hS
      clear hf hown hra hget
      go_wp2_with fail
      refine hS.mono ?_
      rintro e w2 ⟨rfl, hown2, hB2⟩
      have hBM := hidden (hnx.out.trans hB2)
      have hl2 : (ts.mergeSort fun x y => decide (x ≤ y)).length = ps.length := by rw [List.length_mergeSort, htl.out]
      rw [← hl2] at hown2
      have hC := compact_of_row hown2 (by rw [hl2]; omega)
      rw [hl2] at hC
      clear hown2 hB2 hS hl2
      go_wp2_with fail
      refine hC.mono ?_
      rintro e w3 ⟨c', rfl, hcells, hg3, hB3⟩
      have hBN := hidden (hBM.out.trans hB3)
      have hH : Hid (RowAt w3 (some ⟨w.heap.size, 0, none⟩) ((endsOf ts).map (Value.int .i64))) := .inr ⟨_, _, rfl, hg3, hcells⟩
      have he : Hid ((Lib.compact (ts.mergeSort fun x y => decide (x ≤ y))).length = (endsOf ts).length) := rfl
      rw [he.out]
      have hgs := hidden hg3
      clear hcells hC hBM hB3 hg3
      go_wp2
      go_ret
      exact ⟨_, rfl, hH.out, hgs.out, hBN.out⟩
end Go.Proofs.Ytnecfgmbfkocnad
