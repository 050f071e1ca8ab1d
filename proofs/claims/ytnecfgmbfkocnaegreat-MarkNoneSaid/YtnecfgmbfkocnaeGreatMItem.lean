/-
  MARKS OF NO COSTS: mark.getItem of nil, by contract.
-/
import Derived.Test.YtnecfgmbfkocnaeGreatMNone2
import Derived.Test.YtnecfgmbfkocnaeGreatVNum
namespace Go.Proofs.YtnecfgmbfkocnaeGreat
open Go.ChangeShapes Go.WideShapes Go.ChangeAt Go.RowKit

theorem grown_box4 {w w' : World} {B te s n b : Nat} {v : Value} {xs : List Value} {cs : Array Value} {tb : TypeId} (hg : w.grownBy w' v.ownBlock) (hb : w.heap[b]? = some (.cells cs tb)) (h : w.ownsRow B te s v n xs) (ht : te ≠ tb) : w'.heap[b]? = some (.cells cs tb) := by
  refine (hg.block _ (Array.getElem?_eq_some_iff.1 hb).1 fun e => ?_).trans hb
  rcases h.2 with ⟨rfl, _⟩ | ⟨g, cap, cur, rfl, _, h3, _⟩
  · cases e
  · simp only [Value.ownBlock, Option.some.injEq] at e
    subst e
    rw [h3] at hb
    injection hb with hb
    injection hb with _ hb _
    exact ht hb
theorem cell_one_new (w : World) (u : Value) (t : TypeId) : ∀ j x, [u][j]? = some x → (w.alloc (.cells #[u] t)).cell? ((⟨w.heap.size, 0, none⟩ : Addr).add j) = some x := fun j x hj => by
  match j, hj with
  | 0, hj => simp at hj; subst hj; simp [Addr.add, World.cell?_alloc_new]
set_option maxHeartbeats 1600000 in
set_option maxRecDepth 20000 in
theorem getItem_c (b off n c : Nat) (us : List Nat) (w : World) (hnc : n ≤ c) (hu : us.length = n) (h2 : 2 ≤ n) (hn : n ≤ 1000) (hd : us.getD 0 0 + 2 ≤ n)
    (hc : ∀ j, j < n → w.cell? ⟨b, off + j, none⟩ = some (.int .u64 ((us.getD j 0 : Nat) : Int))) (hlt : ∀ u ∈ us, u < 18446744073709551616) :
    Calls Tryz.prog 18 #[.pointer none, .slice (some ⟨b, off, none⟩) n c] w fun e w' => (∃ sz : Int, e = .returned (.tuple #[noItem, .int .i64 sz, .bool false])) ∧ Below w.heap.size w w' := by
  have hc0 : w.cell? ⟨b, off, none⟩ = some (.int .u64 ((us.getD 0 0 : Nat) : Int)) := hc 0 (by omega)
  have hX0 : Hid ((w.alloc (.cells #[.int .i64 0, .slice none 0 0, .int .i64 0, .int .i64 0] 39)).heap[w.heap.size]? = some (.cells #[.int .i64 0, .slice none 0 0, .int .i64 0, .int .i64 0] 39)) := heap_alloc_new _ _
  have hB0 : Hid (Below w.heap.size w (w.alloc (.cells #[.int .i64 0, .slice none 0 0, .int .i64 0, .int .i64 0] 39))) := (Below.refl _ _).alloc (Nat.le_refl _) _
  have hcx : (w.alloc (.cells #[.int .i64 0, .slice none 0 0, .int .i64 0, .int .i64 0] 39)).cell? ⟨b, off, none⟩ = some (.int .u64 ((us.getD 0 0 : Nat) : Int)) := (hB0.out.cell (World.block_lt_of_cell? _ _ hc0)).trans hc0
  have hj1 : ¬ (n : Int) < 2 := by omega
  have hj2 : ((n : Int) - 2) % 18446744073709551616 = (n : Int) - 2 := by omega
  have hj3 : ¬ ((n : Int) - 2) < ((us.getD 0 0 : Nat) : Int) := by omega
  have hj4 : (0 : Int) < n := by omega
  generalize us.getD 0 0 = k at *
  obtain ⟨j0, ki, ky0, ky1, ky2⟩ := info_parts infoInt
  go_enter Tryz.func18, Tryz.ntmps18
  go_wp2_with (refine wpList_make_own _ rfl _ _ 22 rfl w.heap.size 3 j0 (.int .i64 0) 1 Tryz.underlying22 ki ky0 ky1 .i64 .u64 _ k rfl rfl ?d1 ?d2 ?d3 ?d4 ?_)
  case d1 => rfl
  case d2 => omega
  case d3 => unfold maxLen; omega
  intro w0 hown0 hgrow0
  have hB1 : Hid (Below w.heap.size w w0) := hB0.out.grown hgrow0 hB0.out.size (fun j hj => by cases hj)
  have hX1 : Hid (w0.heap[w.heap.size]? = some (.cells #[.int .i64 0, .slice none 0 0, .int .i64 0, .int .i64 0] 39)) := (hgrow0.block _ (Array.getElem?_eq_some_iff.1 hX0.out).1 (by intro h; cases h)).trans hX0.out
  replace hown0 := hidden hown0
  clear hgrow0 hcx
  replace hB0 := hB0
  have hsm := fun z x h0 h1 => small_c z x h0 h1
  have hit := fun r a n c x => mitem_c r a n c x
  unfold noItem at hit
  go_wp2
  · go_loopw [8, 10, 40] (fun u _ i wr => ∃ q : Nat, q ≤ k ∧ i = .int .i64 q ∧ Hid (∃ zs : List Int, zs.length = q ∧ wr.ownsRow w.heap.size 3 1 u zs.length (zs.map (Value.int .i64))) ∧ Hid (Below w.heap.size w wr) ∧ Hid (wr.heap[w.heap.size]? = some (.cells #[.int .i64 0, .slice none 0 0, .int .i64 0, .int .i64 0] 39)))
      (fun _ _ i _ => k - (intOf i).toNat)
    case atStart => exact ⟨0, Nat.zero_le _, rfl, ⟨[], rfl, hown0.out⟩, hB1, hX1⟩
    case round =>
      obtain ⟨q, hq, rfl, hE, hnx, hx⟩ := hrel
      obtain ⟨zs, hzs, hown⟩ := hE.out
      replace hown := hidden hown
      have hsz := hidden hnx.out.size
      clear hE hB1 hX1 hown0
      by_cases hltq : q < k
      · omega
      · have hj5 : ¬ (q : Int) < (k : Int) := by omega
        have hc1 : wr.cell? ⟨b, off + 1, none⟩ = some (.int .u64 ((us.getD 1 0 : Nat) : Int)) := by
          have h9 := hc 1 (by omega)
          exact (hnx.out.cell (World.block_lt_of_cell? _ _ h9)).trans h9
        have hy : us.getD 1 0 < 18446744073709551616 := by
          have h9 : us.getD 1 0 = us[1] := by simp [List.getD, show 1 < us.length by omega]
          rw [h9]; exact hlt _ (List.getElem_mem _)
        have hj6 : (1 : Int) < (n : Int) := by omega
        generalize us.getD 1 0 = y at *
        obtain ⟨a1, c1, rfl⟩ := own_shape hown.out
        clear hown
        go_wp2_with fail
        refine (hsm (y : Int) _ (by omega) (by omega)).mono ?_
        rintro e w2 ⟨⟨z, rfl, hz0, hz1⟩, rfl⟩
        go_wp2_with fail
        refine (hit z a1 _ c1 _).mono ?_
        rintro e w3 ⟨rfl, hB3⟩
        have hB4 : Hid (Below w.heap.size w (w3.alloc (.cells #[.int .i64 0, .slice none 0 0, .int .i64 0, .int .i64 0] 39))) := (hnx.out.trans (hB3.mono hnx.out.size)).alloc (by have := hnx.out.size; have := hB3.size; omega) _
        have hX3 := hidden ((hB3.block _ (Array.getElem?_eq_some_iff.1 hx.out).1).trans hx.out)
        have hX4 := hidden ((heap_alloc_old w3 (.cells #[.int .i64 0, .slice none 0 0, .int .i64 0, .int .i64 0] 39) (Array.getElem?_eq_some_iff.1 hX3.out).1).trans hX3.out)
        obtain ⟨⟨l0, l1, l2, l3⟩, m0, m1, m2, m3⟩ := box4f hX4.out
        obtain ⟨⟨o0, o1, o2, o3⟩, -⟩ := box4f (heap_alloc_new w3 (.cells #[.int .i64 0, .slice none 0 0, .int .i64 0, .int .i64 0] 39))
        have hX5 := hidden (set4 hX4.out (.int .i64 0) (.slice none 0 0) (.int .i64 0) (.int .i64 0))
        have hB5 := hidden (below_set4 hB4.out (b := w.heap.size) (Nat.le_refl _) (.int .i64 0) (.slice none 0 0) (.int .i64 0) (.int .i64 0))
        clear hB3 hX3
        go_wp2
        exact bodyPost_ret (results_row_tmp2 rfl _ _ w.heap.size _ _ _ _ rfl hX5.out Tryz.underlying39 rfl (by kernel_rfl)) rfl ⟨⟨_, rfl⟩, hB5.out⟩
  · go_loopw [8, 10, 40] (fun u _ i wr => ∃ q : Nat, q ≤ k ∧ i = .int .i64 q ∧ Hid (∃ zs : List Int, zs.length = q ∧ wr.ownsRow w.heap.size 3 1 u zs.length (zs.map (Value.int .i64))) ∧ Hid (Below w.heap.size w wr) ∧ Hid (wr.heap[w.heap.size]? = some (.cells #[.int .i64 0, .slice none 0 0, .int .i64 0, .int .i64 0] 39)))
      (fun _ _ i _ => k - (intOf i).toNat)
    case atStart => exact ⟨0, Nat.zero_le _, rfl, ⟨[], rfl, hown0.out⟩, hB1, hX1⟩
    case round =>
      obtain ⟨q, hq, rfl, hE, hnx, hx⟩ := hrel
      obtain ⟨zs, hzs, hown⟩ := hE.out
      replace hown := hidden hown
      have hsz := hidden hnx.out.size
      clear hE hB1 hX1 hown0
      by_cases hltq : q < k
      · have hj5 : (q : Int) < (k : Int) := by omega
        have hcq : wr.cell? ⟨b, off + 2 + q, none⟩ = some (.int .u64 ((us.getD (2 + q) 0 : Nat) : Int)) := by
          have h9 := hc (2 + q) (by omega)
          rw [← Nat.add_assoc] at h9
          exact (hnx.out.cell (World.block_lt_of_cell? _ _ h9)).trans h9
        have hy : us.getD (2 + q) 0 < 18446744073709551616 := by
          have h9 : us.getD (2 + q) 0 = us[2 + q] := by simp [List.getD, show 2 + q < us.length by omega]
          rw [h9]; exact hlt _ (List.getElem_mem _)
        generalize us.getD (2 + q) 0 = y at *
        go_wp2_with fail
        refine (hsm (y : Int) _ (by omega) (by omega)).mono ?_
        rintro e w2 ⟨⟨z, rfl, hz0, hz1⟩, rfl⟩
        go_wp2_with (at_builtin; refine wpList_append_own _ rfl _ _ 22 rfl w.heap.size 3 j0 (.int .i64 0) 1 8 Tryz.underlying22 ki ky0 ky1 ky2 rfl (by decide) _ _ _ rfl (hown.out.alloc _) ⟨w2.heap.size, 0, none⟩ 1 1 [.int .i64 z] rfl rfl (cell_one_new _ _ _) (fun u hu => by simp at hu; subst hu; rfl) (by unfold maxLen; omega) (by omega) (by have := hsz.out; simp; omega) ?_; intro v' w1 hown' hgrow _)
        · have hB := hidden ((hnx.out.alloc hsz.out _).grown hgrow (by have := hsz.out; simp; omega) (fun j hj => by have := (hown.out.lt j hj).1; omega))
          have hx1 := hidden (grown_box4 hgrow ((heap_alloc_old _ _ (Array.getElem?_eq_some_iff.1 hx.out).1).trans hx.out) (hown.out.alloc _) (by decide))
          have hE2 : Hid (∃ ys : List Int, ys.length = q + 1 ∧ w1.ownsRow w.heap.size 3 1 v' ys.length (ys.map (Value.int .i64))) := by
            refine ⟨zs ++ [z], by simp; omega, ?_⟩
            rw [List.map_append, List.length_append]
            exact hown'
          clear hgrow hown hown' hnx hx hcq
          go_wp2
          go_roundw
          case rel => exact ⟨q + 1, by omega, by go_num, hE2, hB, hx1⟩
          case measure => simp [intOf]; omega
      · have hj5 : ¬ (q : Int) < (k : Int) := by omega
        have hc1 : wr.cell? ⟨b, off + 1, none⟩ = some (.int .u64 ((us.getD 1 0 : Nat) : Int)) := by
          have h9 := hc 1 (by omega)
          exact (hnx.out.cell (World.block_lt_of_cell? _ _ h9)).trans h9
        have hy : us.getD 1 0 < 18446744073709551616 := by
          have h9 : us.getD 1 0 = us[1] := by simp [List.getD, show 1 < us.length by omega]
          rw [h9]; exact hlt _ (List.getElem_mem _)
        have hj6 : (1 : Int) < (n : Int) := by omega
        generalize us.getD 1 0 = y at *
        obtain ⟨a1, c1, rfl⟩ := own_shape hown.out
        clear hown
        go_wp2_with fail
        refine (hsm (y : Int) _ (by omega) (by omega)).mono ?_
        rintro e w2 ⟨⟨z, rfl, hz0, hz1⟩, rfl⟩
        go_wp2_with fail
        refine (hit z a1 _ c1 _).mono ?_
        rintro e w3 ⟨rfl, hB3⟩
        have hB4 : Hid (Below w.heap.size w (w3.alloc (.cells #[.int .i64 0, .slice none 0 0, .int .i64 0, .int .i64 0] 39))) := (hnx.out.trans (hB3.mono hnx.out.size)).alloc (by have := hnx.out.size; have := hB3.size; omega) _
        have hX3 := hidden ((hB3.block _ (Array.getElem?_eq_some_iff.1 hx.out).1).trans hx.out)
        have hX4 := hidden ((heap_alloc_old w3 (.cells #[.int .i64 0, .slice none 0 0, .int .i64 0, .int .i64 0] 39) (Array.getElem?_eq_some_iff.1 hX3.out).1).trans hX3.out)
        obtain ⟨⟨l0, l1, l2, l3⟩, m0, m1, m2, m3⟩ := box4f hX4.out
        obtain ⟨⟨o0, o1, o2, o3⟩, -⟩ := box4f (heap_alloc_new w3 (.cells #[.int .i64 0, .slice none 0 0, .int .i64 0, .int .i64 0] 39))
        have hX5 := hidden (set4 hX4.out (.int .i64 0) (.slice none 0 0) (.int .i64 0) (.int .i64 0))
        have hB5 := hidden (below_set4 hB4.out (b := w.heap.size) (Nat.le_refl _) (.int .i64 0) (.slice none 0 0) (.int .i64 0) (.int .i64 0))
        clear hB3 hX3
        go_wp2
        exact bodyPost_ret (results_row_tmp2 rfl _ _ w.heap.size _ _ _ _ rfl hX5.out Tryz.underlying39 rfl (by kernel_rfl)) rfl ⟨⟨_, rfl⟩, hB5.out⟩
theorem getItem_short (a : Option Addr) (n c : Nat) (w : World) (hn : n < 2) :
    Calls Tryz.prog 18 #[.pointer none, .slice a n c] w fun e w' => (∃ sz : Int, e = .returned (.tuple #[noItem, .int .i64 sz, .bool false])) ∧ Below w.heap.size w w' := by
  have hX := hidden (heap_alloc_new w (.cells #[.int .i64 0, .slice none 0 0, .int .i64 0, .int .i64 0] 39))
  have hB0 : Hid (Below w.heap.size w (w.alloc (.cells #[.int .i64 0, .slice none 0 0, .int .i64 0, .int .i64 0] 39))) := (Below.refl _ _).alloc (Nat.le_refl _) _
  obtain ⟨⟨b0, b1, b2, b3⟩, f0, f1, f2, f3⟩ := box4f hX.out
  have hj1 : (n : Int) < 2 := by omega
  go_enter Tryz.func18, Tryz.ntmps18
  go_wp2
  exact bodyPost_ret (results_row_tmp2 rfl _ _ w.heap.size _ _ _ _ rfl hX.out Tryz.underlying39 rfl (by kernel_rfl)) rfl ⟨⟨_, rfl⟩, hB0.out⟩
theorem getItem_long (b off n c : Nat) (k : Nat) (w : World) (h2 : 2 ≤ n) (hn : n ≤ 1000) (hk : n < k + 2) (hk2 : k < 18446744073709551616) (hc0 : w.cell? ⟨b, off, none⟩ = some (.int .u64 (k : Int))) :
    Calls Tryz.prog 18 #[.pointer none, .slice (some ⟨b, off, none⟩) n c] w fun e w' => (∃ sz : Int, e = .returned (.tuple #[noItem, .int .i64 sz, .bool false])) ∧ Below w.heap.size w w' := by
  have hX := hidden (heap_alloc_new w (.cells #[.int .i64 0, .slice none 0 0, .int .i64 0, .int .i64 0] 39))
  have hB0 : Hid (Below w.heap.size w (w.alloc (.cells #[.int .i64 0, .slice none 0 0, .int .i64 0, .int .i64 0] 39))) := (Below.refl _ _).alloc (Nat.le_refl _) _
  obtain ⟨⟨b0, b1, b2, b3⟩, f0, f1, f2, f3⟩ := box4f hX.out
  have hcx : (w.alloc (.cells #[.int .i64 0, .slice none 0 0, .int .i64 0, .int .i64 0] 39)).cell? ⟨b, off, none⟩ = some (.int .u64 (k : Int)) := (hB0.out.cell (World.block_lt_of_cell? _ _ hc0)).trans hc0
  have hj1 : ¬ (n : Int) < 2 := by omega
  have hj2 : ((n : Int) - 2) % 18446744073709551616 = (n : Int) - 2 := by omega
  have hj3 : ((n : Int) - 2) < (k : Int) := by omega
  have hj4 : (0 : Int) < n := by omega
  go_enter Tryz.func18, Tryz.ntmps18
  go_wp2
  exact bodyPost_ret (results_row_tmp2 rfl _ _ w.heap.size _ _ _ _ rfl hX.out Tryz.underlying39 rfl (by kernel_rfl)) rfl ⟨⟨_, rfl⟩, hB0.out⟩
end Go.Proofs.YtnecfgmbfkocnaeGreat
