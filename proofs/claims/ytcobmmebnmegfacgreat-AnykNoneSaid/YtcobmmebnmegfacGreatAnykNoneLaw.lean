/-
  NO COSTS, AND NOTHING RANKED: the law's own walk.
-/
import Derived.Test.YtcobmmebnmegfacGreatCalms
import Derived.Test.YtcobmmebnmegfacGreatAnykGood
namespace Go.Proofs.YtcobmmebnmegfacGreat
open Go.ChangeShapes Go.WideShapes Go.ChangeAt Go.RowKit

theorem itemC_c (y : It) (nv : Value) (w : World) (hv : Holds w nv (y.l.map (Value.int .i64))) (hz : y.l.length ≤ 9223372036854775807) : Calls Tryz.prog 7 #[.agg #[.int .i64 y.c, nv, .int .i64 y.p, .int .i64 y.r]] w fun e w' =>
    ∃ a n k, e = .returned (.agg #[.int .i64 y.c, .slice a n k, .int .i64 y.p, .int .i64 y.r]) ∧ GoX.Calm w w' :=
  (item_c y nv w hv hz).mono fun _ _ ⟨nv', he, hh, hB⟩ => by
    obtain ⟨a, cap, rfl, -⟩ := hh
    exact ⟨a, _, cap, he, .of_below hB⟩
theorem goodC_c (c : Int) (a : Option Addr) (n k : Nat) (p q : Int) (w : World) : Calls Tryz.prog 10 #[.pointer none, .agg #[.int .i64 c, .slice a n k, .int .i64 p, .int .i64 q]] w fun e w' => e = .returned (.bool false) ∧ GoX.Calm w w' :=
  (agood_c c a n k p q w).mono fun _ _ ⟨he, hB⟩ => ⟨he, .of_below hB⟩
theorem afterC_c (c : Int) (a : Option Addr) (n k : Nat) (p q : Int) (w : World) : Calls Tryz.prog 11 #[.pointer none, .agg #[.int .i64 c, .slice a n k, .int .i64 p, .int .i64 q]] w fun e w' => e = .returned (.slice none 0 0) ∧ GoX.Calm w w' :=
  (aafter_c c a n k p q w).mono fun _ _ ⟨he, hB⟩ => ⟨he, .of_below hB⟩
def noRow : Value := .tuple #[.agg #[.slice none 0 0, .int .i64 0, .int .u64 0], .bool false]
/-- What calls without costs, or without anything ranked, return. -/
structure Nones : Prop where
  next : ∀ w, Calls Tryz.prog 4 #[.pointer none] w fun e w' => e = .returned noRow ∧ GoX.Calm w w'
  new : ∀ w, Calls Tryz.prog 5 #[.pointer none] w fun e w1 => ∃ z, e = .returned z ∧ GoX.Calm w w1 ∧ Calls Tryz.prog 4 #[z] w1 fun e w' => e = .returned noRow ∧ GoX.Calm w w'
  from' : ∀ x, x.oneCell' = true → ∀ w, Calls Tryz.prog 6 #[.pointer none, x] w fun e w' => e = .returned (.tuple #[.pointer none, .int .i64 12]) ∧ GoX.Calm w w'
  len : ∀ w, Calls Tryz.prog 8 #[.pointer none] w fun e w' => e = .returned (.int .i64 0) ∧ GoX.Calm w w'
  items : ∀ w, Calls Tryz.prog 9 #[.pointer none] w fun e w' => e = .returned (.slice none 0 0) ∧ GoX.Calm w w'
  all : ∀ w, Calls Tryz.prog 12 #[.pointer none, .int .i64 5] w fun e w' => e = .returned (.slice none 0 0) ∧ GoX.Calm w w'
  lives : ∀ w, Calls Tryz.prog 13 #[] w fun e w' => e = .returned (.bool true) ∧ GoX.Calm w w'
theorem box_calm {w w' : World} {b : Nat} {o : Obj} (h : w.heap[b]? = some o) (hc : GoX.Calm w w') : w'.heap[b]? = some o := (hc.block b (Array.getElem?_eq_some_iff.1 h).1).trans h
theorem box_new (w : World) (o : Obj) : (w.alloc o).heap[w.heap.size]? = some o := by
  show (w.heap.push _)[w.heap.size]? = _
  simp
set_option maxRecDepth 100000 in
set_option maxHeartbeats 3200000 in
theorem law_c (y : It) (nv : Value) (w : World) (hv : Holds w nv (y.l.map (Value.int .i64))) (hz : y.l.length ≤ 9223372036854775807) (hN : Nones) :
    Calls Tryz.prog 3 #[.agg #[.int .i64 y.c, nv, .int .i64 y.p, .int .i64 y.r]] w fun e w' => e = .returned (.bool true) ∧ GoX.Calm w w' := by
  have hit := fun w (h : Holds w nv (y.l.map (Value.int .i64))) => itemC_c y nv w h hz
  have l_v := hidden hv
  obtain ⟨a0, k0, hnv, -⟩ := hv
  obtain ⟨n0, hn0⟩ : ∃ n0, n0 = (y.l.map (Value.int .i64)).length := ⟨_, rfl⟩
  rw [← hn0] at hnv
  subst hnv
  clear hn0 hz
  obtain ⟨c, l, p, r⟩ := y
  simp only at hit l_v ⊢
  have hb0 := hidden (box_new w (.cells #[.int .i64 c, .slice a0 n0 k0, .int .i64 p, .int .i64 r] 24))
  have hC : Hid (GoX.Calm w w) := GoX.Calm.refl w
  go_enter Tryz.func3, Tryz.ntmps3
  go_wp2_with fail
  refine (hN.next _).mono ?_
  rintro e w1 ⟨rfl, hD⟩
  replace l_v := hidden (l_v.out.calm ((calm_alloc _ _).trans hD))
  have l_box := hidden (box_calm hb0.out hD)
  replace hC := hidden (hC.out.trans ((calm_alloc _ _).trans hD))
  clear hD hb0
  generalize w.heap.size = B at *
  unfold noRow
  go_wp2_with fail
  refine (hN.new _).mono ?_
  rintro e w2 ⟨z, rfl, -, hz2⟩
  go_wp2_with fail
  refine hz2.mono ?_
  rintro e w3 ⟨rfl, hD⟩
  have hT : GoX.Calm w1 w3 := by first | exact hD | exact (calm_alloc _ _).trans hD
  replace l_v := hidden (l_v.out.calm hT)
  replace l_box := hidden (box_calm l_box.out hT)
  replace hC := hidden (hC.out.trans hT)
  clear hD hT hz2
  unfold noRow
  obtain ⟨⟨f0, f1, f2, f3⟩, g0, g1, g2, g3⟩ := box4 (box_calm l_box.out (calm_alloc w3 (.cells #[.slice none 0 0, .int .i64 0, .int .u64 0] 28)))
  go_wp2_with fail
  refine (hit _ (by first | exact l_v.out | exact l_v.out.calm (calm_alloc _ _))).mono ?_
  rintro e w4 ⟨a5, n5, k5, rfl, hD⟩
  have hT : GoX.Calm w3 w4 := by first | exact hD | exact (calm_alloc _ _).trans hD | exact ((calm_alloc _ _).trans (calm_alloc _ _)).trans hD
  replace l_v := hidden (l_v.out.calm hT)
  replace l_box := hidden (box_calm l_box.out hT)
  replace hC := hidden (hC.out.trans hT)
  clear hD hT f0 f1 f2 f3 g0 g1 g2 g3
  go_wp2_with fail
  refine (hN.from' _ rfl _).mono ?_
  rintro e w5 ⟨rfl, hD⟩
  have hT : GoX.Calm w4 w5 := by first | exact hD | exact (calm_alloc _ _).trans hD | exact ((calm_alloc _ _).trans (calm_alloc _ _)).trans hD
  replace l_v := hidden (l_v.out.calm hT)
  replace l_box := hidden (box_calm l_box.out hT)
  replace hC := hidden (hC.out.trans hT)
  clear hD hT 
  go_wp2_with fail
  refine (hN.len _).mono ?_
  rintro e w6 ⟨rfl, hD⟩
  have hT : GoX.Calm w5 w6 := by first | exact hD | exact (calm_alloc _ _).trans hD | exact ((calm_alloc _ _).trans (calm_alloc _ _)).trans hD
  replace l_v := hidden (l_v.out.calm hT)
  replace l_box := hidden (box_calm l_box.out hT)
  replace hC := hidden (hC.out.trans hT)
  clear hD hT 
  go_wp2_with fail
  refine (hN.items _).mono ?_
  rintro e w7 ⟨rfl, hD⟩
  have hT : GoX.Calm w6 w7 := by first | exact hD | exact (calm_alloc _ _).trans hD | exact ((calm_alloc _ _).trans (calm_alloc _ _)).trans hD
  replace l_v := hidden (l_v.out.calm hT)
  replace l_box := hidden (box_calm l_box.out hT)
  replace hC := hidden (hC.out.trans hT)
  clear hD hT 
  obtain ⟨⟨f0, f1, f2, f3⟩, g0, g1, g2, g3⟩ := box4 l_box.out
  go_wp2_with fail
  refine (hit _ (by first | exact l_v.out | exact l_v.out.calm (calm_alloc _ _))).mono ?_
  rintro e w8 ⟨a6, n6, k6, rfl, hD⟩
  have hT : GoX.Calm w7 w8 := by first | exact hD | exact (calm_alloc _ _).trans hD | exact ((calm_alloc _ _).trans (calm_alloc _ _)).trans hD
  replace l_v := hidden (l_v.out.calm hT)
  replace l_box := hidden (box_calm l_box.out hT)
  replace hC := hidden (hC.out.trans hT)
  clear hD hT f0 f1 f2 f3 g0 g1 g2 g3
  go_wp2_with fail
  refine (goodC_c _ _ _ _ _ _ _).mono ?_
  rintro e w9 ⟨rfl, hD⟩
  have hT : GoX.Calm w8 w9 := by first | exact hD | exact (calm_alloc _ _).trans hD | exact ((calm_alloc _ _).trans (calm_alloc _ _)).trans hD
  replace l_v := hidden (l_v.out.calm hT)
  replace l_box := hidden (box_calm l_box.out hT)
  replace hC := hidden (hC.out.trans hT)
  clear hD hT 
  obtain ⟨⟨f0, f1, f2, f3⟩, g0, g1, g2, g3⟩ := box4 l_box.out
  go_wp2_with fail
  refine (hit _ (by first | exact l_v.out | exact l_v.out.calm (calm_alloc _ _))).mono ?_
  rintro e w10 ⟨a7, n7, k7, rfl, hD⟩
  have hT : GoX.Calm w9 w10 := by first | exact hD | exact (calm_alloc _ _).trans hD | exact ((calm_alloc _ _).trans (calm_alloc _ _)).trans hD
  replace l_v := hidden (l_v.out.calm hT)
  replace l_box := hidden (box_calm l_box.out hT)
  replace hC := hidden (hC.out.trans hT)
  clear hD hT f0 f1 f2 f3 g0 g1 g2 g3
  go_wp2_with fail
  refine (afterC_c _ _ _ _ _ _ _).mono ?_
  rintro e w11 ⟨rfl, hD⟩
  have hT : GoX.Calm w10 w11 := by first | exact hD | exact (calm_alloc _ _).trans hD | exact ((calm_alloc _ _).trans (calm_alloc _ _)).trans hD
  replace l_v := hidden (l_v.out.calm hT)
  replace l_box := hidden (box_calm l_box.out hT)
  replace hC := hidden (hC.out.trans hT)
  clear hD hT 
  go_wp2_with fail
  refine (hN.all _).mono ?_
  rintro e w12 ⟨rfl, hD⟩
  have hT : GoX.Calm w11 w12 := by first | exact hD | exact (calm_alloc _ _).trans hD | exact ((calm_alloc _ _).trans (calm_alloc _ _)).trans hD
  replace l_v := hidden (l_v.out.calm hT)
  replace l_box := hidden (box_calm l_box.out hT)
  replace hC := hidden (hC.out.trans hT)
  clear hD hT 
  go_wp2_with fail
  refine (hN.lives _).mono ?_
  rintro e w13 ⟨rfl, hD⟩
  have hT : GoX.Calm w12 w13 := by first | exact hD | exact (calm_alloc _ _).trans hD | exact ((calm_alloc _ _).trans (calm_alloc _ _)).trans hD
  replace l_v := hidden (l_v.out.calm hT)
  replace l_box := hidden (box_calm l_box.out hT)
  replace hC := hidden (hC.out.trans hT)
  clear hD hT 
  go_wp2
  go_ret
  exact ⟨by simp, hC.out⟩
end Go.Proofs.YtcobmmebnmegfacGreat
