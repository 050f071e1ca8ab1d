/-
  NO TREE, AND NO WALK: the law's own walk.
-/
import Derived.Test.YtcobmmebnmegfaaCalms
import Derived.Test.YtcobmmebnmegfaaFew
namespace Go.Proofs.Ytcobmmebnmegfaa
open Go.ChangeShapes Go.WideShapes Go.ChangeAt Go.RowKit

set_option maxRecDepth 100000 in
theorem new_c (w : World) : Calls Try.prog 9 #[.pointer none] w fun e w' => ∃ b, e = .returned (.pointer (some ⟨b, 0, none⟩)) ∧ w'.heap[b]? = some (.cells #[.pointer none, .slice none 0 0, .bool false, .bool true, .int .i64 0] 42) ∧ GoX.Calm w w' := by
  go_enter Try.func9, Try.ntmps9
  go_wp2
  go_ret
  refine ⟨_, rfl, ?_, calm_alloc w _⟩
  show (w.heap.push _)[w.heap.size]? = _
  simp
theorem fewC_c (v : Value) (zs : List Int) (w : World) (hv : Holds w v (zs.map (Value.int .i64))) (hz : zs.length ≤ 9223372036854775807) : Calls Try.prog 8 #[v, .int .i64 5] w fun e w' => ∃ v', e = .returned v' ∧ v'.oneCell' = true ∧ GoX.Calm w w' :=
  (few_c v zs 5 w hv hz (by omega)).mono fun _ _ ⟨v', he, ho, hB⟩ => by
    obtain ⟨a, cap, rfl, -⟩ := holds_of_owns ho
    exact ⟨_, he, rfl, .of_below hB⟩
def noRow : Value := .tuple #[.agg #[.slice none 0 0, .int .i64 0, .int .u64 0], .bool false]
/-- What calls without a tree, or a walk, return. -/
structure Nones : Prop where
  step : ∀ w, Calls Try.prog 4 #[.pointer none] w fun e w' => e = .returned noRow ∧ GoX.Calm w w'
  next : ∀ w, Calls Try.prog 5 #[.pointer none] w fun e w' => e = .returned noRow ∧ GoX.Calm w w'
  first : ∀ w, Calls Try.prog 6 #[.pointer none] w fun e w' => e = .returned noRow ∧ GoX.Calm w w'
  behind : ∀ x, x.oneCell' = true → ∀ w, Calls Try.prog 7 #[.pointer none, x] w fun e w' => e = .returned noRow ∧ GoX.Calm w w'
  nextP : ∀ b w, w.heap[b]? = some (.cells #[.pointer none, .slice none 0 0, .bool false, .bool true, .int .i64 0] 42) → Calls Try.prog 5 #[.pointer (some ⟨b, 0, none⟩)] w fun e w' => e = .returned noRow ∧ GoX.Calm w w'
  over : ∀ w, Calls Try.prog 10 #[.pointer none] w fun e w' => e = .returned (.bool true) ∧ GoX.Calm w w'
  overP : ∀ b w, w.heap[b]? = some (.cells #[.pointer none, .slice none 0 0, .bool false, .bool true, .int .i64 0] 42) → Calls Try.prog 10 #[.pointer (some ⟨b, 0, none⟩)] w fun e w' => e = .returned (.bool true) ∧ GoX.Calm w w'
  steps : ∀ w, Calls Try.prog 11 #[.pointer none] w fun e w' => e = .returned (.int .i64 0) ∧ GoX.Calm w w'
  to : ∀ x, x.oneCell' = true → ∀ w, Calls Try.prog 12 #[.pointer none, x] w fun e w' => e = .returned (.bool false) ∧ GoX.Calm w w'
  all : ∀ w, Calls Try.prog 13 #[.pointer none, .int .i64 5] w fun e w' => e = .returned (.slice none 0 0) ∧ GoX.Calm w w'
  lives : ∀ w, Calls Try.prog 14 #[] w fun e w' => e = .returned (.bool true) ∧ GoX.Calm w w'
set_option maxRecDepth 100000 in
set_option maxHeartbeats 3200000 in
theorem law_c (v : Value) (zs : List Int) (w : World) (hv : Holds w v (zs.map (Value.int .i64))) (hz : zs.length ≤ 9223372036854775807) (hN : Nones) :
    Calls Try.prog 3 #[v] w fun e w' => e = .returned (.bool true) ∧ GoX.Calm w w' := by
  have l_v := hidden hv
  have hzz := hidden hz
  clear hv hz
  go_enter Try.func3, Try.ntmps3
  have hC : Hid (GoX.Calm w w) := GoX.Calm.refl w
  go_wp2_with fail
  refine (hN.step _).mono ?_
  rintro e w1 ⟨rfl, hD⟩
  have hT : GoX.Calm w w1 := by first | exact hD | exact (calm_alloc _ _).trans hD | exact ((calm_alloc _ _).trans (calm_alloc _ _)).trans hD
  replace l_v := hidden (l_v.out.calm hT)
  replace hC := hidden (hC.out.trans hT)
  clear hD hT 
  try unfold noRow
  go_wp2_with fail
  refine (hN.next _).mono ?_
  rintro e w2 ⟨rfl, hD⟩
  have hT : GoX.Calm w1 w2 := by first | exact hD | exact (calm_alloc _ _).trans hD | exact ((calm_alloc _ _).trans (calm_alloc _ _)).trans hD
  replace l_v := hidden (l_v.out.calm hT)
  replace hC := hidden (hC.out.trans hT)
  clear hD hT 
  try unfold noRow
  go_wp2_with fail
  refine (hN.first _).mono ?_
  rintro e w3 ⟨rfl, hD⟩
  have hT : GoX.Calm w2 w3 := by first | exact hD | exact (calm_alloc _ _).trans hD | exact ((calm_alloc _ _).trans (calm_alloc _ _)).trans hD
  replace l_v := hidden (l_v.out.calm hT)
  replace hC := hidden (hC.out.trans hT)
  clear hD hT 
  try unfold noRow
  go_wp2_with fail
  refine (fewC_c v zs _ (by first | exact l_v.out | exact l_v.out.calm (calm_alloc _ _)) hzz.out).mono ?_
  rintro e w4 ⟨u, rfl, hu, hD⟩
  have hT : GoX.Calm w3 w4 := by first | exact hD | exact (calm_alloc _ _).trans hD | exact ((calm_alloc _ _).trans (calm_alloc _ _)).trans hD
  replace hu := hidden hu
  replace l_v := hidden (l_v.out.calm hT)
  replace hC := hidden (hC.out.trans hT)
  clear hD hT 
  go_wp2_with fail
  refine (hN.behind u hu.out _).mono ?_
  rintro e w5 ⟨rfl, hD⟩
  have hT : GoX.Calm w4 w5 := by first | exact hD | exact (calm_alloc _ _).trans hD | exact ((calm_alloc _ _).trans (calm_alloc _ _)).trans hD
  replace l_v := hidden (l_v.out.calm hT)
  replace hC := hidden (hC.out.trans hT)
  clear hD hT hu
  try unfold noRow
  go_wp2_with fail
  refine (new_c _).mono ?_
  rintro e w6 ⟨b, rfl, hb, hD⟩
  have hT : GoX.Calm w5 w6 := by first | exact hD | exact (calm_alloc _ _).trans hD | exact ((calm_alloc _ _).trans (calm_alloc _ _)).trans hD
  replace hb := hidden hb
  replace l_v := hidden (l_v.out.calm hT)
  replace hC := hidden (hC.out.trans hT)
  clear hD hT 
  go_wp2_with fail
  refine (hN.nextP b _ hb.out).mono ?_
  rintro e w7 ⟨rfl, hD⟩
  have hT : GoX.Calm w6 w7 := by first | exact hD | exact (calm_alloc _ _).trans hD | exact ((calm_alloc _ _).trans (calm_alloc _ _)).trans hD
  replace l_v := hidden (l_v.out.calm hT)
  replace hC := hidden (hC.out.trans hT)
  clear hD hT hb
  try unfold noRow
  go_wp2_with fail
  refine (hN.over _).mono ?_
  rintro e w8 ⟨rfl, hD⟩
  have hT : GoX.Calm w7 w8 := by first | exact hD | exact (calm_alloc _ _).trans hD | exact ((calm_alloc _ _).trans (calm_alloc _ _)).trans hD
  replace l_v := hidden (l_v.out.calm hT)
  replace hC := hidden (hC.out.trans hT)
  clear hD hT 
  go_wp2_with fail
  refine (new_c _).mono ?_
  rintro e w9 ⟨b, rfl, hb, hD⟩
  have hT : GoX.Calm w8 w9 := by first | exact hD | exact (calm_alloc _ _).trans hD | exact ((calm_alloc _ _).trans (calm_alloc _ _)).trans hD
  replace hb := hidden hb
  replace l_v := hidden (l_v.out.calm hT)
  replace hC := hidden (hC.out.trans hT)
  clear hD hT 
  go_wp2_with fail
  refine (hN.overP b _ hb.out).mono ?_
  rintro e w10 ⟨rfl, hD⟩
  have hT : GoX.Calm w9 w10 := by first | exact hD | exact (calm_alloc _ _).trans hD | exact ((calm_alloc _ _).trans (calm_alloc _ _)).trans hD
  replace l_v := hidden (l_v.out.calm hT)
  replace hC := hidden (hC.out.trans hT)
  clear hD hT hb
  go_wp2_with fail
  refine (hN.steps _).mono ?_
  rintro e w11 ⟨rfl, hD⟩
  have hT : GoX.Calm w10 w11 := by first | exact hD | exact (calm_alloc _ _).trans hD | exact ((calm_alloc _ _).trans (calm_alloc _ _)).trans hD
  replace l_v := hidden (l_v.out.calm hT)
  replace hC := hidden (hC.out.trans hT)
  clear hD hT 
  go_wp2_with fail
  refine (fewC_c v zs _ (by first | exact l_v.out | exact l_v.out.calm (calm_alloc _ _)) hzz.out).mono ?_
  rintro e w12 ⟨u, rfl, hu, hD⟩
  have hT : GoX.Calm w11 w12 := by first | exact hD | exact (calm_alloc _ _).trans hD | exact ((calm_alloc _ _).trans (calm_alloc _ _)).trans hD
  replace hu := hidden hu
  replace l_v := hidden (l_v.out.calm hT)
  replace hC := hidden (hC.out.trans hT)
  clear hD hT 
  go_wp2_with fail
  refine (hN.to u hu.out _).mono ?_
  rintro e w13 ⟨rfl, hD⟩
  have hT : GoX.Calm w12 w13 := by first | exact hD | exact (calm_alloc _ _).trans hD | exact ((calm_alloc _ _).trans (calm_alloc _ _)).trans hD
  replace l_v := hidden (l_v.out.calm hT)
  replace hC := hidden (hC.out.trans hT)
  clear hD hT hu
  go_wp2_with fail
  refine (hN.all _).mono ?_
  rintro e w14 ⟨rfl, hD⟩
  have hT : GoX.Calm w13 w14 := by first | exact hD | exact (calm_alloc _ _).trans hD | exact ((calm_alloc _ _).trans (calm_alloc _ _)).trans hD
  replace l_v := hidden (l_v.out.calm hT)
  replace hC := hidden (hC.out.trans hT)
  clear hD hT 
  go_wp2_with fail
  refine (hN.lives _).mono ?_
  rintro e w15 ⟨rfl, hD⟩
  have hT : GoX.Calm w14 w15 := by first | exact hD | exact (calm_alloc _ _).trans hD | exact ((calm_alloc _ _).trans (calm_alloc _ _)).trans hD
  replace l_v := hidden (l_v.out.calm hT)
  replace hC := hidden (hC.out.trans hT)
  clear hD hT 
  go_wp2
  go_ret
  exact ⟨by simp, hC.out⟩
end Go.Proofs.Ytcobmmebnmegfaa
