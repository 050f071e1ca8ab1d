/-
  WITHOUT COSTS NO ITEM IS GOOD, by contract.
-/
import Derived.Test.YtcobmmebnmegfacGreatCalms
import Derived.Test.YtcobmmebnmegfacGreatItem
import Derived.Test.YtcobmmebnmegfacGreatLater
import Derived.WideMake
namespace Go.Proofs.YtcobmmebnmegfacGreat
open Go.ChangeShapes Go.WideShapes Go.ChangeAt Go.RowKit

theorem tree_c (w : World) : Calls Tryz.prog 17 #[.pointer none] w fun e w' => e = .returned (.pointer none) ∧ w' = w := by
  go_enter Tryz.func17, Tryz.ntmps17
  go_wp2
  go_ret
  exact ⟨rfl, rfl⟩
theorem lists_c (w : World) : Calls Tryz.prog 19 #[.pointer none] w fun e w' => ∃ r, e = .returned (.agg #[.pointer none, .map (some r)]) ∧ Below w.heap.size w w' := by
  have hmm := fun w => run_makeMap_plain (P := Tryz.prog) (w := w) 47
  have h0 : ((w.alloc (.cells #[.pointer none, .map (some (w.heap.size + 1))] 49)).alloc (.map #[] 0)).heap[w.heap.size]? = some (.cells #[.pointer none, .map (some (w.heap.size + 1))] 49) :=
    (heap_alloc_old _ _ (by show _ < (w.heap.push _).size; simp)).trans (heap_alloc_new _ _)
  have hB : Below w.heap.size w ((w.alloc (.cells #[.pointer none, .map (some (w.heap.size + 1))] 49)).alloc (.map #[] 0)) := ((Below.refl _ _).alloc (Nat.le_refl _) _).alloc (by show _ ≤ (w.heap.push _).size; simp) _
  go_enter Tryz.func19, Tryz.ntmps19
  go_wp2
  exact bodyPost_ret (results_cell_row rfl _ _ w.heap.size 49 _ _ _ rfl h0 Tryz.underlying49 rfl (by kernel_rfl)) rfl ⟨_, rfl, hB⟩
set_option maxRecDepth 100000 in
theorem good_c (r : Nat) (c : Int) (nv : Value) (hnv : ∃ a n k, nv = .slice a n k) (p q : Int) (w : World) : Calls Tryz.prog 22 #[.agg #[.pointer none, .map (some r)], .agg #[.int .i64 c, nv, .int .i64 p, .int .i64 q]] w fun e w' => e = .returned (.bool false) ∧ Below w.heap.size w w' := by
  obtain ⟨a, n, k, rfl⟩ := hnv
  have hB := (((Below.refl w.heap.size w).alloc (Nat.le_refl _) (.cells #[.pointer none, .map (some r)] 49))).alloc (by simp) (.cells #[.int .i64 c, .slice a n k, .int .i64 p, .int .i64 q] 24)
  replace hB := hidden hB
  go_enter Tryz.func22, Tryz.ntmps22
  go_wp2_with fail
  refine (tree_c _).mono ?_
  rintro e w1 ⟨rfl, rfl⟩
  go_wp2
  go_quiet (fail)
  go_wp2
  go_ret
  exact ⟨rfl, by first | exact hB.out.drew | exact below_drewN hB.out _⟩
theorem sl_forms {nv : Value} (h : ∃ a n k, nv = .slice a n k) : nv.oneCell' = true := by
  obtain ⟨a, n, k, rfl⟩ := h; rfl
set_option maxRecDepth 100000 in
theorem agood_c (c : Int) (a : Option Addr) (n k : Nat) (p q : Int) (w : World) : Calls Tryz.prog 10 #[.pointer none, .agg #[.int .i64 c, .slice a n k, .int .i64 p, .int .i64 q]] w fun e w' => e = .returned (.bool false) ∧ Below w.heap.size w w' := by
  have hB := hiddenI ((Below.refl w.heap.size w).alloc (Nat.le_refl _) (.cells #[.int .i64 c, .slice a n k, .int .i64 p, .int .i64 q] 24))
  have hg := fun r w => good_c r c (.slice a n k) ⟨a, n, k, rfl⟩ p q w
  have hx := hiddenI (heap_alloc_new w (.cells #[.int .i64 c, .slice a n k, .int .i64 p, .int .i64 q] 24))
  go_enter Tryz.func10, Tryz.ntmps10
  go_wp2
  obtain ⟨⟨f0, f1, f2, f3⟩, g0, g1, g2, g3⟩ := box4 hx.out
  go_region_with (first
    | (refine (lists_c _).mono ?_; rintro e w1 ⟨r, rfl, hB1⟩; have hx1 := (hB1.block _ (Array.getElem?_eq_some_iff.1 hx.out).1).trans hx.out; obtain ⟨⟨x0, x1, x2, x3⟩, y0, y1, y2, y3⟩ := box4 hx1)
    | (refine (hg _ _).mono ?_; rintro e w2 ⟨rfl, hB2⟩))
  all_goals
    have hfb : Below w.heap.size w w2 := (hB.out.drew.trans (hB1.mono hB.out.drew.size)).trans (hB2.mono (hB.out.drew.trans (hB1.mono hB.out.drew.size)).size)
    replace hfb := hiddenI hfb
    clear hB1 hB2 hB hx hx1
    go_wp2
    go_ret
    exact ⟨rfl, hfb.out⟩
set_option maxRecDepth 100000 in
theorem aafter_c (c : Int) (a : Option Addr) (n k : Nat) (p q : Int) (w : World) : Calls Tryz.prog 11 #[.pointer none, .agg #[.int .i64 c, .slice a n k, .int .i64 p, .int .i64 q]] w fun e w' => e = .returned (.slice none 0 0) ∧ Below w.heap.size w w' := by
  have hB := hiddenI ((Below.refl w.heap.size w).alloc (Nat.le_refl _) (.cells #[.int .i64 c, .slice a n k, .int .i64 p, .int .i64 q] 24))
  have hg := fun r w => good_c r c (.slice a n k) ⟨a, n, k, rfl⟩ p q w
  have hx := hiddenI (heap_alloc_new w (.cells #[.int .i64 c, .slice a n k, .int .i64 p, .int .i64 q] 24))
  go_enter Tryz.func11, Tryz.ntmps11
  go_wp2_with fail
  refine (lists_c _).mono ?_
  rintro e w1 ⟨r, rfl, hB1⟩
  have hx1 := (hB1.block _ (Array.getElem?_eq_some_iff.1 hx.out).1).trans hx.out
  have hb1 : w.heap.size < w1.heap.size := (Array.getElem?_eq_some_iff.1 hx1).1
  have hx2 := (heap_alloc_old w1 (.cells #[.pointer none, .map (some r)] 49) hb1).trans hx1
  obtain ⟨⟨x0, x1, x2, x3⟩, y0, y1, y2, y3⟩ := box4 hx2
  have hBw : Below w.heap.size w w1 := hB.out.trans (hB1.mono hB.out.size)
  have hBw2 := hiddenI (hBw.alloc hBw.size (.cells #[.pointer none, .map (some r)] 49))
  clear hBw hb1 hx1 hB1 hB hx
  go_wp2_with fail
  refine (hg _ _).mono ?_
  rintro e w2 ⟨rfl, hB2⟩
  have hfb := hiddenI (hBw2.out.trans (hB2.mono hBw2.out.size))
  clear hB2 hBw2 hx2
  go_wp2
  go_ret
  exact ⟨rfl, hfb.out⟩
end Go.Proofs.YtcobmmebnmegfacGreat
