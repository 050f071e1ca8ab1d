/-
  PAIRS AS NUMBERS, AND THEIR ORDER: the program's and the reference's, by contract.
-/
import Derived.Test.YtfjhiaafabmpbafPairs1
import Derived.Test.YtfjhiaafabmpbafOrder
namespace Go.Proofs.Ytfjhiaafabmpbaf
open Go.ChangeShapes Go.WideShapes Go.ChangeAt Go.RowKit

theorem infoU : (Try.prog.info? 37).map (fun i => (i.zero, i.size, i.bytes)) = some (some (.int .u64 0), 1, 8) := by kernel_rfl
/-- That the parts of pairs are uint32's. -/
def WfP (ps : List (Int × Int)) : Prop := ∀ p ∈ ps, 0 ≤ p.1 ∧ p.1 ≤ 4294967295 ∧ 0 ≤ p.2 ∧ p.2 ≤ 4294967295
def keysOf (ps : List (Int × Int)) : List Int := ps.map keyZ
theorem keysOf_len (ps : List (Int × Int)) : (keysOf ps).length = ps.length := by simp [keysOf]
theorem keysOf_at (ps : List (Int × Int)) {k : Nat} (hk : k < ps.length) : (keysOf ps).getD k 0 = keyZ (ps.getD k (0, 0)) := by simp [keysOf, List.getD, hk]
theorem getD_memP {ps : List (Int × Int)} {k : Nat} (hk : k < ps.length) : ps.getD k (0, 0) ∈ ps := by simp [List.getD, hk]
theorem keysOf_wf {ps : List (Int × Int)} (h : WfP ps) : ∀ z ∈ keysOf ps, (Lit.int .u64 z).wf = true := fun z hz => by
  obtain ⟨p, hp, rfl⟩ := List.mem_map.1 hz
  obtain ⟨h1, h2, h3, h4⟩ := h p hp
  unfold keyZ
  simp [Lit.wf, IntKind.min, IntKind.max, IntKind.signed, IntKind.bits]; omega
theorem takeK (ps : List (Int × Int)) {k : Nat} (hk : k < ps.length) : (keysOf ps).take (k + 1) = (keysOf ps).take k ++ [keyZ (ps.getD k (0, 0))] := by
  rw [List.take_add_one, List.getElem?_eq_getElem (show k < (keysOf ps).length by rw [keysOf_len]; exact hk)]
  simp [keysOf, List.getD, hk]

set_option maxHeartbeats 1600000 in
set_option maxRecDepth 1000000 in
theorem rkeys_c (v : Value) (ps : List (Int × Int)) (w : World) (hv : HoldsP w v ps) (hz : ps.length ≤ 1000) (hw : WfP ps) :
    Calls Try.prog 8 #[v] w fun e w' => ∃ v', e = .returned v' ∧ w'.ownsRow w.heap.size 37 1 v' ps.length ((keysOf ps).map (Value.int .u64)) ∧ Below w.heap.size w w' := by
  obtain ⟨a, cap, rfl, hrow⟩ := hv
  obtain ⟨i0, hi, hz0, hz1, hz2⟩ := info_parts infoU
  go_enter Try.func8, Try.ntmps8
  go_wp2
  go_loopw [3, 4] (fun u i wr => ∃ k : Nat, k ≤ ps.length ∧ i = .int .i64 k ∧ wr.ownsRow w.heap.size 37 1 u k (((keysOf ps).take k).map (Value.int .u64)) ∧ Below w.heap.size w wr)
    (fun _ i _ => ps.length - (intOf i).toNat)
  case atStart => exact ⟨0, Nat.zero_le _, rfl, World.ownsRow_made w #[] 0 (Nat.le_refl _) (by unfold maxLen; omega) rfl, (Below.refl _ _).alloc (Nat.le_refl _) _⟩
  case round =>
    obtain ⟨k, hk, rfl, hown, hnx⟩ := hrel
    by_cases hlt : k < ps.length
    · obtain ⟨b, off, rfl, hb, hc1, hc2⟩ := pairs_at hrow hlt
      have hx1 : wr.cell? ⟨b, off + k * 2, none⟩ = some (.int .u32 (ps.getD k (0, 0)).1) := (hnx.cell (by exact hb)).trans hc1
      have hx2 : wr.cell? ⟨b, off + k * 2 + 1, none⟩ = some (.int .u32 (ps.getD k (0, 0)).2) := (hnx.cell (by exact hb)).trans hc2
      obtain ⟨g1, g2, g3, g4⟩ := hw _ (getD_memP hlt)
      have hts := takeK ps hlt
      have hszw := hnx.size
      clear hc1 hc2
      generalize ps.getD k (0, 0) = p at *
      obtain ⟨x, y⟩ := p
      simp only at hx1 hx2 g1 g2 g3 g4
      have hcall := fun w => rkey_c x y w g1 g2 g3 g4
      generalize keyZ (x, y) = z at *
      have hcu : ∀ u ∈ [Value.int .u64 z], u.oneCell' = true := fun u hu => by simp at hu; subst hu; rfl
      go_wp2_with (first
        | (go_at_call 15; refine (hcall _).mono ?_; rintro e w' ⟨rfl, hB⟩; have hown2 := (owns_keep hown hB); have hnx2 := hnx.trans (hB.mono hnx.size); have hsz2 := hnx2.size)
        | (at_builtin; refine wpList_app rfl _ _ 28 rfl w.heap.size 37 i0 (.int .u64 0) 8 Try.underlying28 hi hz0 hz1 hz2 rfl (by rfl) (hown2.alloc _) (by rfl) (Sl.one _ (.int .u64 z) _) hcu (by simp; unfold maxLen; omega) (by simp; omega) (by simp; omega) ?_; intro v1 w1 hown1 hgrow1 hsm1))
      have hB1 := (hnx2.alloc hsz2 _).grown hgrow1 (by simp; omega) (fun j hj => (hown2.lt j hj).1)
      have hown3 : w1.ownsRow w.heap.size 37 1 v1 (k + 1) (((keysOf ps).take (k + 1)).map (Value.int .u64)) := by rw [hts]; simpa using hown1
      clear hown1 hgrow1 hown hown2 hcall hts
      go_wp2
      go_roundw
      case rel => exact ⟨k + 1, by omega, by go_num, hown3, hB1⟩
      case measure => simp [intOf]; omega
    · obtain rfl : k = ps.length := by omega
      rw [List.take_of_length_le (by rw [keysOf_len]; exact Nat.le_refl _)] at hown
      go_wp2
      go_ret
      exact ⟨_, rfl, hown, hnx⟩

/-- Keys laid so far. -/
def kTo (ps : List (Int × Int)) (k : Nat) : List Value := (List.range ps.length).map fun j => .int .u64 (if j < k then keyZ (ps.getD j (0, 0)) else 0)
theorem kTo_len (ps : List (Int × Int)) (k : Nat) : (kTo ps k).length = ps.length := by simp [kTo]
theorem kTo_zero (ps : List (Int × Int)) : kTo ps 0 = List.replicate ps.length (.int .u64 0) := by
  apply List.ext_getElem?
  intro j
  by_cases hj : j < ps.length
  · simp [kTo, hj]
  · rw [List.getElem?_eq_none (by rw [kTo_len]; omega), List.getElem?_eq_none (by simp; omega)]
theorem kTo_set (ps : List (Int × Int)) (k : Nat) (hk : k < ps.length) : (kTo ps k).set k (.int .u64 (keyZ (ps.getD k (0, 0)))) = kTo ps (k + 1) := by
  apply List.ext_getElem?
  intro j
  rw [List.getElem?_set, kTo_len]
  by_cases hj : j < ps.length
  · simp only [kTo, List.getElem?_map, List.getElem?_range hj, Option.map_some]
    by_cases h0 : k = j
    · subst h0; simp [hk]
    · rw [if_neg h0]
      by_cases h1 : j < k
      · simp [h1, show j < k + 1 by omega]
      · simp [h1, show ¬ j < k + 1 by omega]
  · rw [List.getElem?_eq_none (l := kTo ps k) (by rw [kTo_len]; omega), List.getElem?_eq_none (l := kTo ps (k + 1)) (by rw [kTo_len]; omega)]
    split
    · exfalso; omega
    · rfl
theorem kTo_all (ps : List (Int × Int)) : kTo ps ps.length = (keysOf ps).map (Value.int .u64) := by
  apply List.ext_getElem?
  intro j
  by_cases hj : j < ps.length
  · simp [kTo, keysOf, hj, List.getD]
  · rw [List.getElem?_eq_none (by rw [kTo_len]; omega), List.getElem?_eq_none (by simp [keysOf]; omega)]

set_option maxHeartbeats 1600000 in
set_option maxRecDepth 1000000 in
theorem pairs_c (v : Value) (ps : List (Int × Int)) (w : World) (hv : HoldsP w v ps) (hz : ps.length ≤ 1000) (hw : WfP ps) :
    Calls Try.prog 6 #[v] w fun e w' => ∃ v' l, e = .returned v' ∧ Ordered (keyOf (keysOf ps)) ps.length l ∧ w'.ownsRow w.heap.size 3 1 v' ps.length (natsV l) ∧ Below w.heap.size w w' := by
  obtain ⟨a, cap, rfl, hrow⟩ := hv
  have hord := fun (vk : Value) (w' : World) hk => order_c vk (keysOf ps) w' hk (by rw [keysOf_len]; exact hz) (keysOf_wf hw)
  rw [keysOf_len] at hord
  obtain ⟨i0, hi, hz0, hz1, hz2⟩ := info_parts infoU
  go_enter Try.func6, Try.ntmps6
  go_wp2_with (refine wpList_make_full _ rfl _ _ 28 rfl w.heap.size 37 i0 (.int .u64 0) 1 Try.underlying28 hi hz0 hz1 .i64 .i64 _ _ ps.length rfl rfl rfl rfl ?d3 ?d4 ?d5 ?_)
  case d3 => rw [hz2]; omega
  case d4 => unfold maxLen; omega
  case d5 => omega
  intro w0 hown0 hgrow0
  have hB0 : Below w.heap.size w w0 := (Below.refl _ _).grown hgrow0 (Nat.le_refl _) (fun j hj => by cases hj)
  have hown1 : w0.ownsRow w.heap.size 37 1 (.slice (some ⟨w.heap.size, 0, none⟩) ps.length ps.length) ps.length (kTo ps 0) := by
    rw [kTo_zero]
    simpa [madeCells, Value.cells, Nat.mod_one, List.map_const'] using hown0
  clear hown0 hgrow0
  go_wp2
  go_loopw [11] (fun i wr => ∃ k : Nat, k ≤ ps.length ∧ i = .int .i64 k ∧ wr.ownsRow w.heap.size 37 1 (.slice (some ⟨w.heap.size, 0, none⟩) ps.length ps.length) ps.length (kTo ps k) ∧ Below w.heap.size w wr)
    (fun i _ => ps.length - (intOf i).toNat)
  case atStart => exact ⟨0, Nat.zero_le _, rfl, hown1, hB0⟩
  case round =>
    clear hown1 hB0
    obtain ⟨k, hk, rfl, hown, hnx⟩ := hrel
    by_cases hlt : k < ps.length
    · obtain ⟨b, off, rfl, hb, hc1, hc2⟩ := pairs_at hrow hlt
      have hx1 : wr.cell? ⟨b, off + k * 2, none⟩ = some (.int .u32 (ps.getD k (0, 0)).1) := (hnx.cell (by exact hb)).trans hc1
      have hx2 : wr.cell? ⟨b, off + k * 2 + 1, none⟩ = some (.int .u32 (ps.getD k (0, 0)).2) := (hnx.cell (by exact hb)).trans hc2
      obtain ⟨g1, g2, g3, g4⟩ := hw _ (getD_memP hlt)
      have hset := kTo_set ps k hlt
      clear hc1 hc2
      generalize ps.getD k (0, 0) = p at *
      obtain ⟨x, y⟩ := p
      simp only at hx1 hx2 g1 g2 g3 g4
      have hcall := fun w => pack_c x y w g1 g2 g3 g4
      generalize keyZ (x, y) = z at *
      have hownA := hown.alloc (.cells #[.int .u32 x, .int .u32 y] 36)
      have hst := hownA.stored k (.int .u64 z)
      rw [hset] at hst
      have hfr : (wr.alloc (.cells #[.int .u32 x, .int .u32 y] 36)).frozen? ⟨w.heap.size, k, none⟩ = false := hownA.frozenAt k
      obtain ⟨tv, htv⟩ : ∃ tv, (wr.alloc (.cells #[.int .u32 x, .int .u32 y] 36)).cell? ⟨w.heap.size, k, none⟩ = some tv := by
        rw [hownA.cellAt k (by omega)]
        exact ⟨_, List.getElem?_eq_getElem (by rw [kTo_len]; omega)⟩
      have hszw := hnx.size
      go_wp2_with (go_at_call 13; refine (hcall _).mono ?_; rintro e w' ⟨rfl, rfl⟩)
      go_roundw
      case rel => exact ⟨k + 1, by omega, by go_num, hst.1, (hnx.alloc hszw _).setCell (Nat.le_refl _) _⟩
      case measure => simp [intOf]; omega
    · obtain rfl : k = ps.length := by omega
      rw [kTo_all] at hown
      have hh := holds_of_owns hown
      have hcall := hord _ wr hh
      go_wp2_with (go_at_call 14; refine hcall.mono ?_; rintro e w' ⟨v', l, rfl, hl, ho, hB⟩)
      go_ret
      have ho2 : w'.ownsRow w.heap.size 3 1 v' ps.length (natsV l) := by
        refine ⟨ho.1, ?_⟩
        rcases ho.2 with h | ⟨g, c, cur, h1, h2, h3⟩
        · exact .inl h
        · exact .inr ⟨g, c, cur, h1, Nat.le_trans hnx.size h2, h3⟩
      exact ⟨v', l, rfl, hl, ho2, hnx.trans (hB.mono hnx.size)⟩
end Go.Proofs.Ytfjhiaafabmpbaf
