/-
  NO ROWS: the law's own walk.
-/
import Derived.Test.YtbkldenjldejiaeCalms
namespace Go.Proofs.Ytbkldenjldejiae
open Go.ChangeShapes Go.WideShapes Go.ChangeAt Go.RowKit

theorem box_calm {w w' : World} {b : Nat} {o : Obj} (h : w.heap[b]? = some o) (hc : GoX.Calm w w') : w'.heap[b]? = some o := (hc.block b (Array.getElem?_eq_some_iff.1 h).1).trans h
theorem box_new (w : World) (o : Obj) : (w.alloc o).heap[w.heap.size]? = some o := by
  show (w.heap.push _)[w.heap.size]? = _
  simp
theorem box2 {x : World} {b : Nat} {c0 c1 : Value} {t : TypeId} (h : x.heap[b]? = some (.cells #[c0, c1] t)) :
    (x.cell? ⟨b, 0, none⟩ = some c0 ∧ x.cell? ⟨b, 1, none⟩ = some c1) ∧ x.frozen? ⟨b, 0, none⟩ = false ∧ x.frozen? ⟨b, 1, none⟩ = false := by
  refine ⟨⟨?_, ?_⟩, ?_, ?_⟩ <;> simp [World.cell?, World.frozen?, h]
/-- What calls without rows return. -/
structure Nones : Prop where
  label : ∀ x, x.oneCell' = true → ∀ w, Calls Try.prog 4 #[.pointer none, x] w fun e w' => e = .returned (.tuple #[.int .i64 0, .bool false]) ∧ GoX.Calm w w'
  ends : ∀ x, x.oneCell' = true → ∀ w, Calls Try.prog 5 #[.pointer none, x] w fun e w' => e = .returned (.tuple #[.int .i64 0, .int .i64 0, .bool false]) ∧ GoX.Calm w w'
  nodes : ∀ w, Calls Try.prog 6 #[.pointer none] w fun e w' => e = .returned (.int .i64 0) ∧ GoX.Calm w w'
  edges : ∀ w, Calls Try.prog 7 #[.pointer none] w fun e w' => e = .returned (.int .i64 0) ∧ GoX.Calm w w'
  labels : ∀ w, Calls Try.prog 8 #[.pointer none] w fun e w' => e = .returned (.slice none 0 0) ∧ GoX.Calm w w'
  out : ∀ x, x.oneCell' = true → ∀ w, Calls Try.prog 9 #[.pointer none, x] w fun e w' => e = .returned (.slice none 0 0) ∧ GoX.Calm w w'
  in' : ∀ x, x.oneCell' = true → ∀ w, Calls Try.prog 10 #[.pointer none, x] w fun e w' => e = .returned (.slice none 0 0) ∧ GoX.Calm w w'
  step : ∀ x y z, x.oneCell' = true → y.oneCell' = true → z.oneCell' = true → ∀ w, Calls Try.prog 11 #[.pointer none, x, .agg #[y, z]] w fun e w' => e = .returned (.slice none 0 0) ∧ GoX.Calm w w'
  degree : ∀ x y, x.oneCell' = true → y.oneCell' = true → ∀ w, Calls Try.prog 12 #[.pointer none, x, y] w fun e w' => e = .returned (.int .i64 0) ∧ GoX.Calm w w'
  lives : ∀ w, Calls Try.prog 13 #[] w fun e w' => e = .returned (.bool true) ∧ GoX.Calm w w'
set_option maxRecDepth 100000 in
set_option maxHeartbeats 3200000 in
theorem law_c (n : Int) (s0 s1 : Value) (h0 : s0.oneCell' = true) (h1 : s1.oneCell' = true) (w : World) (hN : Nones) :
    Calls Try.prog 3 #[.int .i64 n, .agg #[s0, s1]] w fun e w' => e = .returned (.bool true) ∧ GoX.Calm w w' := by
  have hb0 := hidden (box_new w (.cells #[s0, s1] 23))
  have hC : Hid (GoX.Calm w w) := GoX.Calm.refl w
  have hn : (Value.int .i64 n).oneCell' = true := rfl
  replace h0 := hidden h0
  replace h1 := hidden h1
  replace hn := hidden hn
  obtain ⟨⟨f0, f1⟩, g0, g1⟩ := box2 hb0.out
  go_enter Try.func3, Try.ntmps3
  go_wp2_with fail
  refine (hN.label _ h0.out _).mono ?_
  rintro e w1 ⟨rfl, hD⟩
  have l_box := hidden (box_calm hb0.out hD)
  replace hC := hidden (hC.out.trans ((calm_alloc _ _).trans hD))
  clear hD hb0 f0 f1 g0 g1
  generalize w.heap.size = B at *
  go_wp2_with fail
  refine (hN.ends _ hn.out _).mono ?_
  rintro e w2 ⟨rfl, hD⟩
  have hT : GoX.Calm w1 w2 := by first | exact hD | exact (calm_alloc _ _).trans hD | exact ((calm_alloc _ _).trans (calm_alloc _ _)).trans hD
  replace l_box := hidden (box_calm l_box.out hT)
  replace hC := hidden (hC.out.trans hT)
  clear hD hT 
  go_wp2_with fail
  refine (hN.nodes _).mono ?_
  rintro e w3 ⟨rfl, hD⟩
  have hT : GoX.Calm w2 w3 := by first | exact hD | exact (calm_alloc _ _).trans hD | exact ((calm_alloc _ _).trans (calm_alloc _ _)).trans hD
  replace l_box := hidden (box_calm l_box.out hT)
  replace hC := hidden (hC.out.trans hT)
  clear hD hT 
  go_wp2_with fail
  refine (hN.edges _).mono ?_
  rintro e w4 ⟨rfl, hD⟩
  have hT : GoX.Calm w3 w4 := by first | exact hD | exact (calm_alloc _ _).trans hD | exact ((calm_alloc _ _).trans (calm_alloc _ _)).trans hD
  replace l_box := hidden (box_calm l_box.out hT)
  replace hC := hidden (hC.out.trans hT)
  clear hD hT 
  go_wp2_with fail
  refine (hN.labels _).mono ?_
  rintro e w5 ⟨rfl, hD⟩
  have hT : GoX.Calm w4 w5 := by first | exact hD | exact (calm_alloc _ _).trans hD | exact ((calm_alloc _ _).trans (calm_alloc _ _)).trans hD
  replace l_box := hidden (box_calm l_box.out hT)
  replace hC := hidden (hC.out.trans hT)
  clear hD hT 
  go_wp2_with fail
  refine (hN.out _ hn.out _).mono ?_
  rintro e w6 ⟨rfl, hD⟩
  have hT : GoX.Calm w5 w6 := by first | exact hD | exact (calm_alloc _ _).trans hD | exact ((calm_alloc _ _).trans (calm_alloc _ _)).trans hD
  replace l_box := hidden (box_calm l_box.out hT)
  replace hC := hidden (hC.out.trans hT)
  clear hD hT 
  go_wp2_with fail
  refine (hN.in' _ hn.out _).mono ?_
  rintro e w7 ⟨rfl, hD⟩
  have hT : GoX.Calm w6 w7 := by first | exact hD | exact (calm_alloc _ _).trans hD | exact ((calm_alloc _ _).trans (calm_alloc _ _)).trans hD
  replace l_box := hidden (box_calm l_box.out hT)
  replace hC := hidden (hC.out.trans hT)
  clear hD hT 
  obtain ⟨⟨f0, f1⟩, g0, g1⟩ := box2 l_box.out
  go_wp2_with fail
  refine (hN.step _ _ _ hn.out h0.out h1.out _).mono ?_
  rintro e w8 ⟨rfl, hD⟩
  have hT : GoX.Calm w7 w8 := by first | exact hD | exact (calm_alloc _ _).trans hD | exact ((calm_alloc _ _).trans (calm_alloc _ _)).trans hD
  replace l_box := hidden (box_calm l_box.out hT)
  replace hC := hidden (hC.out.trans hT)
  clear hD hT f0 f1 g0 g1
  obtain ⟨⟨f0, f1⟩, g0, g1⟩ := box2 l_box.out
  go_wp2_with fail
  refine (hN.degree _ _ hn.out h1.out _).mono ?_
  rintro e w9 ⟨rfl, hD⟩
  have hT : GoX.Calm w8 w9 := by first | exact hD | exact (calm_alloc _ _).trans hD | exact ((calm_alloc _ _).trans (calm_alloc _ _)).trans hD
  replace l_box := hidden (box_calm l_box.out hT)
  replace hC := hidden (hC.out.trans hT)
  clear hD hT f0 f1 g0 g1
  go_wp2_with fail
  refine (hN.lives _).mono ?_
  rintro e w10 ⟨rfl, hD⟩
  have hT : GoX.Calm w9 w10 := by first | exact hD | exact (calm_alloc _ _).trans hD | exact ((calm_alloc _ _).trans (calm_alloc _ _)).trans hD
  replace l_box := hidden (box_calm l_box.out hT)
  replace hC := hidden (hC.out.trans hT)
  clear hD hT 
  go_wp2
  go_ret
  exact ⟨by simp, hC.out⟩
end Go.Proofs.Ytbkldenjldejiae
