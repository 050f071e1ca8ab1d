/-
  NO COUNTS: the law's own walk.
-/
import Derived.Test.YtcobmmebnmegfabCalms
import Derived.Test.YtcobmmebnmegfabFew
namespace Go.Proofs.Ytcobmmebnmegfab
open Go.ChangeShapes Go.WideShapes Go.ChangeAt Go.RowKit

theorem fewC_c (v : Value) (zs : List Int) (w : World) (hv : Holds w v (zs.map (Value.int .i64))) (hz : zs.length ≤ 9223372036854775807) : Calls Try.prog 6 #[v, .int .i64 4] w fun e w' => ∃ v', e = .returned v' ∧ v'.oneCell' = true ∧ GoX.Calm w w' :=
  (few_c v zs 4 w hv hz (by omega)).mono fun _ _ ⟨v', he, ho, hB⟩ => by
    obtain ⟨a, cap, rfl, -⟩ := holds_of_owns ho
    exact ⟨_, he, rfl, .of_below hB⟩
/-- What calls without counts return. -/
structure Nones (k : Int) : Prop where
  at' : ∀ w, Calls Try.prog 4 #[.pointer none, .int .u64 k] w fun e w' => e = .returned (.tuple #[.agg #[.slice none 0 0, .int .i64 0, .int .u64 0], .int .u64 0, .bool false]) ∧ GoX.Calm w w'
  rank : ∀ x, x.oneCell' = true → ∀ w, Calls Try.prog 5 #[.pointer none, x] w fun e w' => e = .returned (.tuple #[.int .u64 0, .bool false]) ∧ GoX.Calm w w'
  ahead : ∀ x, x.oneCell' = true → ∀ w, Calls Try.prog 7 #[.pointer none, x] w fun e w' => e = .returned (.int .u64 0) ∧ GoX.Calm w w'
  work : ∀ w, Calls Try.prog 8 #[.pointer none, .int .u64 k] w fun e w' => e = .returned (.int .i64 0) ∧ GoX.Calm w w'
  lives : ∀ w, Calls Try.prog 9 #[] w fun e w' => e = .returned (.bool true) ∧ GoX.Calm w w'
set_option maxRecDepth 100000 in
set_option maxHeartbeats 3200000 in
theorem law_c (k : Int) (v : Value) (zs : List Int) (w : World) (hv : Holds w v (zs.map (Value.int .i64))) (hz : zs.length ≤ 9223372036854775807) (hN : Nones k) :
    Calls Try.prog 3 #[.int .u64 k, v] w fun e w' => e = .returned (.bool true) ∧ GoX.Calm w w' := by
  have l_v := hidden hv
  have hzz := hidden hz
  clear hv hz
  go_enter Try.func3, Try.ntmps3
  have hC : Hid (GoX.Calm w w) := GoX.Calm.refl w
  go_wp2_with fail
  refine (hN.at' _).mono ?_
  rintro e w1 ⟨rfl, hD⟩
  have hT : GoX.Calm w w1 := by first | exact hD | exact (calm_alloc _ _).trans hD | exact ((calm_alloc _ _).trans (calm_alloc _ _)).trans hD
  replace l_v := hidden (l_v.out.calm hT)
  replace hC := hidden (hC.out.trans hT)
  clear hD hT 
  go_wp2_with fail
  refine (fewC_c v zs _ (by first | exact l_v.out | exact l_v.out.calm (calm_alloc _ _)) hzz.out).mono ?_
  rintro e w2 ⟨u, rfl, hu, hD⟩
  have hT : GoX.Calm w1 w2 := by first | exact hD | exact (calm_alloc _ _).trans hD | exact ((calm_alloc _ _).trans (calm_alloc _ _)).trans hD
  replace hu := hidden hu
  replace l_v := hidden (l_v.out.calm hT)
  replace hC := hidden (hC.out.trans hT)
  clear hD hT 
  go_wp2_with fail
  refine (hN.rank u hu.out _).mono ?_
  rintro e w3 ⟨rfl, hD⟩
  have hT : GoX.Calm w2 w3 := by first | exact hD | exact (calm_alloc _ _).trans hD | exact ((calm_alloc _ _).trans (calm_alloc _ _)).trans hD
  replace l_v := hidden (l_v.out.calm hT)
  replace hC := hidden (hC.out.trans hT)
  clear hD hT hu
  go_wp2_with fail
  refine (fewC_c v zs _ (by first | exact l_v.out | exact l_v.out.calm (calm_alloc _ _)) hzz.out).mono ?_
  rintro e w4 ⟨u, rfl, hu, hD⟩
  have hT : GoX.Calm w3 w4 := by first | exact hD | exact (calm_alloc _ _).trans hD | exact ((calm_alloc _ _).trans (calm_alloc _ _)).trans hD
  replace hu := hidden hu
  replace l_v := hidden (l_v.out.calm hT)
  replace hC := hidden (hC.out.trans hT)
  clear hD hT 
  go_wp2_with fail
  refine (hN.ahead u hu.out _).mono ?_
  rintro e w5 ⟨rfl, hD⟩
  have hT : GoX.Calm w4 w5 := by first | exact hD | exact (calm_alloc _ _).trans hD | exact ((calm_alloc _ _).trans (calm_alloc _ _)).trans hD
  replace l_v := hidden (l_v.out.calm hT)
  replace hC := hidden (hC.out.trans hT)
  clear hD hT hu
  go_wp2_with fail
  refine (hN.work _).mono ?_
  rintro e w6 ⟨rfl, hD⟩
  have hT : GoX.Calm w5 w6 := by first | exact hD | exact (calm_alloc _ _).trans hD | exact ((calm_alloc _ _).trans (calm_alloc _ _)).trans hD
  replace l_v := hidden (l_v.out.calm hT)
  replace hC := hidden (hC.out.trans hT)
  clear hD hT 
  go_wp2_with fail
  refine (hN.lives _).mono ?_
  rintro e w7 ⟨rfl, hD⟩
  have hT : GoX.Calm w6 w7 := by first | exact hD | exact (calm_alloc _ _).trans hD | exact ((calm_alloc _ _).trans (calm_alloc _ _)).trans hD
  replace l_v := hidden (l_v.out.calm hT)
  replace hC := hidden (hC.out.trans hT)
  clear hD hT 
  go_wp2
  go_ret
  exact ⟨by simp, hC.out⟩
end Go.Proofs.Ytcobmmebnmegfab
