/-
  SUMS AHEAD: the program's and the reference's, by one contract each.
-/
import Derived.Test.YtmjffmjpefaafacFew
import Derived.Test.YtmjffmjpefaafacSame
import Derived.StillTailTactics
import Derived.BigQuiet
namespace Go.Proofs.Ytmjffmjpefaafac
open Go.ChangeShapes Go.WideShapes Go.ChangeAt Go.RowKit

def pre (zs : List Int) (k : Nat) : Int := (zs.take k).sum
theorem pre_zero (zs : List Int) : pre zs 0 = 0 := rfl
theorem pre_succ (zs : List Int) {k : Nat} (hk : k < zs.length) : pre zs (k + 1) = pre zs k + zs.getD k 0 := by
  unfold pre; rw [take_snoc zs k hk, List.sum_append]; simp
def OkAt (zs : List Int) (k : Nat) : Prop := 0 ≤ zs.getD k 0 ∧ zs.getD k 0 ≤ 9007199254740992 - pre zs k
def AllOk (zs : List Int) : Prop := ∀ j, j < zs.length → OkAt zs j
theorem pre_bounds (zs : List Int) : ∀ k, k ≤ zs.length → (∀ j, j < k → OkAt zs j) → 0 ≤ pre zs k ∧ pre zs k ≤ 9007199254740992
  | 0, _, _ => by rw [pre_zero]; omega
  | k + 1, hk, h => by
    have ih := pre_bounds zs k (by omega) fun j hj => h j (by omega)
    obtain ⟨h1, h2⟩ := h k (by omega)
    rw [pre_succ zs (by omega)]; omega

/-- The row of sums, filled up to place k. -/
def sumRow (zs : List Int) (k : Nat) : List Value := (List.range (zs.length + 1)).map fun j => Value.int .i64 (if j ≤ k then pre zs j else 0)
theorem sumRow_len (zs : List Int) (k : Nat) : (sumRow zs k).length = zs.length + 1 := by simp [sumRow]
theorem sumRow_at (zs : List Int) (k : Nat) (hk : k ≤ zs.length) : (sumRow zs k)[k]? = some (.int .i64 (pre zs k)) := by
  simp only [sumRow, List.getElem?_map, List.getElem?_range (show k < zs.length + 1 by omega)]; simp
theorem sumRow_zero (zs : List Int) : sumRow zs 0 = List.replicate (zs.length + 1) (.int .i64 0) := by
  apply List.ext_getElem?
  intro j
  by_cases hj : j < zs.length + 1
  · simp only [sumRow, List.getElem?_map, List.getElem?_range hj, List.getElem?_replicate, hj, if_true, Option.map_some]
    by_cases h0 : j = 0
    · subst h0; simp [pre_zero]
    · simp [h0]
  · rw [List.getElem?_eq_none (by rw [sumRow_len]; omega), List.getElem?_eq_none (by simp; omega)]
theorem sumRow_set (zs : List Int) (k : Nat) : (sumRow zs k).set (k + 1) (.int .i64 (pre zs (k + 1))) = sumRow zs (k + 1) := by
  apply List.ext_getElem?
  intro j
  rw [List.getElem?_set, sumRow_len]
  by_cases hj : j < zs.length + 1
  · simp only [sumRow, List.getElem?_map, List.getElem?_range hj, Option.map_some]
    by_cases h0 : k + 1 = j
    · subst h0; simp [hj]
    · rw [if_neg h0]
      by_cases h1 : j ≤ k
      · simp [h1, show j ≤ k + 1 by omega]
      · simp [h1, show ¬ j ≤ k + 1 by omega]
  · rw [List.getElem?_eq_none (l := sumRow zs k) (by rw [sumRow_len]; omega), List.getElem?_eq_none (l := sumRow zs (k + 1)) (by rw [sumRow_len]; omega)]
    split
    · rename_i h; rw [if_neg (by omega)]
    · rfl
theorem sumRow_full (zs : List Int) : sumRow zs zs.length = ((List.range (zs.length + 1)).map (pre zs)).map (Value.int .i64) := by
  simp only [sumRow, List.map_map]
  apply List.map_congr_left
  intro j hj
  simp only [List.mem_range] at hj
  simp [show j ≤ zs.length by omega]

set_option maxHeartbeats 1600000 in
set_option maxRecDepth 1000000 in
theorem sums_c (v : Value) (zs : List Int) (w : World) (hv : Holds w v (zs.map (Value.int .i64))) (hz : zs.length ≤ 1000) (hwf : ∀ z ∈ zs, (Lit.int .i64 z).wf = true) :
    Calls Try.prog 5 #[v] w fun e w' => ∃ v' code, e = .returned (.tuple #[v', .int .i64 code]) ∧ Below w.heap.size w w' ∧
      ((AllOk zs ∧ code = 0 ∧ w'.ownsRow w.heap.size 3 1 v' (zs.length + 1) (((List.range (zs.length + 1)).map (pre zs)).map (Value.int .i64))) ∨ (¬ AllOk zs ∧ code = 3 ∧ v' = .slice none 0 0)) := by
  obtain ⟨a, cap, rfl, hrow⟩ := hv
  rw [List.length_map]
  obtain ⟨i0, hi, hz0, hz1, hz2⟩ := info_parts infoInt
  go_enter Try.func5, Try.ntmps5
  go_wp2_with (refine wpList_make_full _ rfl _ _ 22 rfl w.heap.size 3 i0 (.int .i64 0) 1 Try.underlying22 hi hz0 hz1 .i64 .i64 _ _ (zs.length + 1) rfl rfl ?d1 ?d2 ?d3 ?d4 ?d5 ?_)
  case d1 => push_cast; rfl
  case d2 => push_cast; rfl
  case d3 => rw [hz2]; omega
  case d4 => unfold maxLen; omega
  case d5 => omega
  intro w0 hown0 hgrow0
  have hsz0 := hgrow0.size
  have hB0 : Below w.heap.size w w0 := (Below.refl _ _).grown hgrow0 (Nat.le_refl _) (fun j hj => by cases hj)
  have hown1 : w0.ownsRow w.heap.size 3 1 (.slice (some ⟨w.heap.size, 0, none⟩) (zs.length + 1) (zs.length + 1)) (zs.length + 1) (sumRow zs 0) := by
    rw [sumRow_zero]
    simpa [madeCells, Value.cells, Nat.mod_one, List.map_const'] using hown0
  clear hown0 hgrow0
  go_wp2
  go_loopw [13] (fun i wr => ∃ k : Nat, k ≤ zs.length ∧ i = .int .i64 k ∧ (∀ j, j < k → OkAt zs j) ∧ wr.ownsRow w.heap.size 3 1 (.slice (some ⟨w.heap.size, 0, none⟩) (zs.length + 1) (zs.length + 1)) (zs.length + 1) (sumRow zs k) ∧ Below w.heap.size w wr)
    (fun i _ => zs.length - (intOf i).toNat)
  case atStart => exact ⟨0, Nat.zero_le _, rfl, fun j hj => by omega, hown1, hB0⟩
  case round =>
    obtain ⟨k, hk, rfl, hok, hown, hnx⟩ := hrel
    by_cases hlt : k < zs.length
    · rcases hrow with h0 | ⟨b, off, rfl, hb, hc⟩
      · simp only [List.map_eq_nil_iff] at h0; subst h0; simp at hlt
      have hcx : wr.cell? ⟨b, off + k, none⟩ = some (.int .i64 (zs.getD k 0)) := (hnx.cell (by exact hb)).trans (hc k _ (by simp [hlt]))
      have hcs : wr.cell? ⟨w.heap.size, k, none⟩ = some (.int .i64 (pre zs k)) := by rw [hown.cellAt k (by omega), sumRow_at zs k hk]
      have hcs1 : ∃ u, wr.cell? ⟨w.heap.size, k + 1, none⟩ = some u := ⟨_, by rw [hown.cellAt (k + 1) (by omega)]; exact List.getElem?_eq_getElem (by rw [sumRow_len]; omega)⟩
      obtain ⟨u1, hcs1⟩ := hcs1
      have hfr : wr.frozen? ⟨w.heap.size, k + 1, none⟩ = false := hown.frozenAt (k + 1)
      have hpb := pre_bounds zs k hk hok
      have hps := pre_succ zs hlt
      obtain ⟨hz0', hz1'⟩ := bounds_i64 (hwf (zs.getD k 0) (by simp [List.getD, hlt]))
      have hst := hown.stored (k + 1) (.int .i64 (pre zs (k + 1)))
      rw [sumRow_set, hps] at hst
      have hOk : OkAt zs k ↔ 0 ≤ zs.getD k 0 ∧ zs.getD k 0 ≤ 9007199254740992 - pre zs k := Iff.rfl
      clear hc hi hz0 hz1 hz2
      generalize zs.getD k 0 = z at *
      generalize pre zs k = p at *
      by_cases hg : 0 ≤ z ∧ z ≤ 9007199254740992 - p
      · obtain ⟨hg1, hg2⟩ := hg
        have hgu : (decide (z < 0) || decide (9007199254740992 - p < z)) = false := by simp; omega
        go_wp2
        go_roundw
        case rel =>
          refine ⟨k + 1, by omega, by go_num, fun j hj => ?_, ?_, ?_⟩
          · rcases Nat.lt_or_ge j k with h | h
            · exact hok j h
            · obtain rfl : j = k := by omega
              exact hOk.2 ⟨hg1, hg2⟩
          · exact hst.1
          · exact hnx.setCell (Nat.le_refl _) _
        case measure => simp [intOf]; omega
      · have hbad : Hid (¬ AllOk zs) := fun h => hg (hOk.1 (h k hlt))
        clear hst hok hOk
        by_cases hz1 : z < 0
        · clear hg
          go_wp2
          go_ret2
          exact ⟨_, _, rfl, hnx, .inr ⟨hbad.out, rfl, rfl⟩⟩
        · have hz2 : 9007199254740992 - p < z := by omega
          clear hg
          go_wp2
          go_ret2
          exact ⟨_, _, rfl, hnx, .inr ⟨hbad.out, rfl, rfl⟩⟩
    · obtain rfl : k = zs.length := by omega
      rw [sumRow_full] at hown
      go_wp2
      go_ret2
      exact ⟨_, _, rfl, hnx, .inl ⟨hok, rfl, hown⟩⟩

set_option maxHeartbeats 1600000 in
set_option maxRecDepth 1000000 in
theorem rsums_c (v : Value) (zs : List Int) (w : World) (hv : Holds w v (zs.map (Value.int .i64))) (hz : zs.length ≤ 1000) (hwf : ∀ z ∈ zs, (Lit.int .i64 z).wf = true) :
    Calls Try.prog 6 #[v] w fun e w' => ∃ v' ok, e = .returned (.tuple #[v', .bool ok]) ∧ Below w.heap.size w w' ∧
      ((AllOk zs ∧ ok = true ∧ w'.ownsRow w.heap.size 3 1 v' (zs.length + 1) (((List.range (zs.length + 1)).map (pre zs)).map (Value.int .i64))) ∨ (¬ AllOk zs ∧ ok = false ∧ v' = .slice none 0 0)) := by
  obtain ⟨a, cap, rfl, hrow⟩ := hv
  rw [List.length_map]
  obtain ⟨i0, hi, hz0, hz1, hz2⟩ := info_parts infoInt
  have hstart : (w.alloc (.cells #[.int .i64 0] 3)).ownsRow w.heap.size 3 1 (.slice (some ⟨w.heap.size, 0, none⟩) 1 1) 1 (((List.range 1).map (pre zs)).map (Value.int .i64)) := by
    refine ⟨by simp, .inr ⟨w.heap.size, 1, #[.int .i64 0], rfl, Nat.le_refl _, (MapKept.heap_alloc w _).1, Nat.le_refl _, by unfold maxLen; omega, rfl, by simp [pre_zero]⟩⟩
  go_enter Try.func6, Try.ntmps6
  go_wp2
  go_loopw [4, 5] (fun u i wr => ∃ k : Nat, k ≤ zs.length ∧ i = .int .i64 k ∧ (∀ j, j < k → OkAt zs j) ∧ wr.ownsRow w.heap.size 3 1 u (k + 1) (((List.range (k + 1)).map (pre zs)).map (Value.int .i64)) ∧ Below w.heap.size w wr)
    (fun _ i _ => zs.length - (intOf i).toNat)
  case atStart => exact ⟨0, Nat.zero_le _, rfl, fun j hj => by omega, hstart, (Below.refl _ _).alloc (Nat.le_refl _) _⟩
  case round =>
    obtain ⟨k, hk, rfl, hok, hown, hnx⟩ := hrel
    by_cases hlt : k < zs.length
    · rcases hrow with h0 | ⟨b, off, rfl, hb, hc⟩
      · simp only [List.map_eq_nil_iff] at h0; subst h0; simp at hlt
      have hcx : wr.cell? ⟨b, off + k, none⟩ = some (.int .i64 (zs.getD k 0)) := (hnx.cell (by exact hb)).trans (hc k _ (by simp [hlt]))
      obtain ⟨g, c2, rfl, hgb⟩ : ∃ g c2, u4 = .slice (some ⟨g, 0, none⟩) (k + 1) c2 ∧ w.heap.size ≤ g := by
        rcases hown.2 with ⟨_, h⟩ | ⟨g, c2, cur, h1, h2, _⟩
        · omega
        · exact ⟨g, c2, h1, h2⟩
      have hcs : wr.cell? ⟨g, k, none⟩ = some (.int .i64 (pre zs k)) := by
        rw [hown.cellAt k (by omega)]
        simp only [List.getElem?_map, List.getElem?_range (show k < k + 1 by omega)]; rfl
      have hpb := pre_bounds zs k hk hok
      have hps := pre_succ zs hlt
      obtain ⟨hz0', hz1'⟩ := bounds_i64 (hwf (zs.getD k 0) (by simp [List.getD, hlt]))
      have hOk : OkAt zs k ↔ 0 ≤ zs.getD k 0 ∧ zs.getD k 0 ≤ 9007199254740992 - pre zs k := Iff.rfl
      have hsz := hnx.size
      clear hc
      generalize zs.getD k 0 = z at *
      by_cases hg : 0 ≤ z ∧ z ≤ 9007199254740992 - pre zs k
      · obtain ⟨hg1, hg2⟩ := hg
        have hg0 : decide (z < 0) = false := by simp; omega
        go_wp2
        go_quiet (fail)
        go_wp2
        have hq : Below w.heap.size w (wr.drewN nq) := below_drewN hnx nq
        have hcsq : (wr.drewN nq).cell? ⟨g, k, none⟩ = some (.int .i64 (pre zs k)) := hcs
        have hcxq : (wr.drewN nq).cell? ⟨b, off + k, none⟩ = some (.int .i64 z) := hcx
        have hownq : (wr.drewN nq).ownsRow w.heap.size 3 1 (.slice (some ⟨g, 0, none⟩) (k + 1) c2) (k + 1) (((List.range (k + 1)).map (pre zs)).map (Value.int .i64)) := hown
        have hszq : w.heap.size ≤ (wr.drewN nq).heap.size := hsz
        have hwr : IntKind.i64.wrap (pre zs k + z) = pre zs k + z := by rw [IntKind.wrap_i64]; omega
        have hki : (k : Int) < (k : Int) + 1 := by omega
        have hltg : g < (wr.drewN nq).heap.size := (hownq.lt g rfl).2
        generalize wr.drewN nq = wq at *
        clear hown hcs hcx hnx hsz
        go_region_law (refine step_append_own rfl (.tmp 30) (.tmp 40) 22 rfl w.heap.size 3 i0 (.int .i64 0) 1 8 Try.underlying22 hi hz0 hz1 hz2 rfl (by decide) _ _ _ (by simp [Act.eval]) ((World.ownsRow.alloc (w := wq) hownq _).drew) ⟨wq.heap.size, 0, none⟩ 1 1 [.int .i64 (pre zs k + z)] (by simp [Act.eval]) rfl (fun j u hj => cell_one_new wq (.int .i64 (pre zs k + z)) 3 j u hj) (by intro u hu; simp at hu; subst hu; rfl) (by unfold maxLen; omega) (by omega) (by simp; omega) ?_; intro v' w1 hown' hgrow)
        all_goals
          have hB : Below w.heap.size w w1 := (hq.alloc (by omega) _).drew.grown hgrow (by simp; omega) (fun j hj => by simp [Value.ownBlock] at hj; omega)
          have hrow2 : ((List.range (k + 1 + 1)).map (pre zs)).map (Value.int .i64) = ((List.range (k + 1)).map (pre zs)).map (Value.int .i64) ++ [.int .i64 (pre zs k + z)] := by
            rw [List.range_succ, List.map_append, List.map_append, List.map_singleton, List.map_singleton, hps]
          have hok2 : Hid (∀ j, j < k + 1 → OkAt zs j) := fun j hj => by
            rcases Nat.lt_or_ge j k with h | h
            · exact hok j h
            · obtain rfl : j = k := by omega
              exact hOk.2 ⟨hg1, hg2⟩
          clear hgrow hq hcsq hcxq hownq hOk hok
          go_wp2
          go_roundw
          case rel => exact ⟨k + 1, by omega, by go_num, hok2.out, by rw [hrow2]; exact hown', hB⟩
          case measure => simp [intOf]; omega
      · have hbad : Hid (¬ AllOk zs) := fun h => hg (hOk.1 (h k hlt))
        clear hok hOk
        by_cases hz1 : z < 0
        · have hg0 : decide (z < 0) = true := by simp; omega
          clear hg
          go_wp2
          go_quiet (fail)
          go_wp2
          go_ret2
          exact ⟨_, _, rfl, below_drewN hnx _, .inr ⟨hbad.out, rfl, rfl⟩⟩
        · have hg0 : decide (z < 0) = false := by simp; omega
          have hz2 : 9007199254740992 - pre zs k < z := by omega
          clear hg
          go_wp2
          go_quiet (fail)
          go_wp2
          go_ret2
          exact ⟨_, _, rfl, below_drewN hnx _, .inr ⟨hbad.out, rfl, rfl⟩⟩
    · obtain rfl : k = zs.length := by omega
      go_wp2
      go_ret2
      exact ⟨_, _, rfl, hnx, .inl ⟨hok, rfl, hown⟩⟩
end Go.Proofs.Ytmjffmjpefaafac
