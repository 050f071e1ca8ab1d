/-
  NO ROWS: the law's own walk.
-/
import Derived.Test.YtlamheddaejdbaaGreatDoorHFew
namespace Go.Proofs.YtlamheddaejdbaaGreatDoor
open Go.ChangeShapes Go.WideShapes Go.ChangeAt Go.RowKit

/-- What calls without rows return. -/
structure Nones (w0 : World) : Prop where
  at1 : ∀ x y, x.oneCell' = true → y.oneCell' = true → ∀ w, GoX.Calm w0 w → Calls Tryz.prog 4 #[.pointer none, x, y] w fun e w' => e = .returned (.tuple #[.slice none 0 0, .bool false]) ∧ GoX.Calm w w'
  rank : ∀ x y, x.oneCell' = true → y.oneCell' = true → ∀ w, GoX.Calm w0 w → Calls Tryz.prog 5 #[.pointer none, x, y] w fun e w' => e = .returned (.tuple #[.int .u64 0, .bool false]) ∧ GoX.Calm w w'
  next : ∀ x y, x.oneCell' = true → y.oneCell' = true → ∀ w, GoX.Calm w0 w → Calls Tryz.prog 7 #[.pointer none, x, y] w fun e w' => e = .returned (.tuple #[.slice none 0 0, .bool false]) ∧ GoX.Calm w w'
  count : ∀ x, x.oneCell' = true → ∀ w, GoX.Calm w0 w → Calls Tryz.prog 8 #[.pointer none, x] w fun e w' => e = .returned (.int .u64 0) ∧ GoX.Calm w w'
  links : ∀ w, GoX.Calm w0 w → Calls Tryz.prog 9 #[.pointer none] w fun e w' => e = .returned (.slice none 0 0) ∧ GoX.Calm w w'
  lives : ∀ w, GoX.Calm w0 w → Calls Tryz.prog 10 #[] w fun e w' => e = .returned (.bool true) ∧ GoX.Calm w w'
set_option maxRecDepth 100000 in
set_option maxHeartbeats 3200000 in
theorem law_c (n : Int) (k : Int) (v : Value) (ps : List (Int × Bool)) (w : World) (hv : HoldsH w v ps) (hN : Nones w)
    (hF : ∀ w, HoldsH w v ps → Calls Tryz.prog 6 #[v] w fun e w' => ∃ v', e = .returned v' ∧ v'.oneCell' = true ∧ GoX.Calm w w') :
    Calls Tryz.prog 3 #[.int .i64 n, .int .u64 k, v] w fun e w' => e = .returned (.bool true) ∧ GoX.Calm w w' := by
  have l_v := hidden hv
  have hC : Hid (GoX.Calm w w) := GoX.Calm.refl w
  have hn : (Value.int .i64 n).oneCell' = true := rfl
  have hk : (Value.int .u64 k).oneCell' = true := rfl
  replace hn := hidden hn
  replace hk := hidden hk
  clear hv
  go_enter Tryz.func3, Tryz.ntmps3
  go_wp2_with fail
  refine (hN.at1 _ _ hn.out hk.out _ hC.out).mono ?_
  rintro e w1 ⟨rfl, hD⟩
  have hT : GoX.Calm w w1 := by first | exact hD | exact (calm_alloc _ _).trans hD | exact ((calm_alloc _ _).trans (calm_alloc _ _)).trans hD
  replace l_v := hidden (l_v.out.calm hT)
  replace hC := hidden (hC.out.trans hT)
  clear hD hT 
  go_wp2_with fail
  refine (hF _ l_v.out).mono ?_
  rintro e w2 ⟨u1, rfl, hu1, hD⟩
  have hT : GoX.Calm w1 w2 := by first | exact hD | exact (calm_alloc _ _).trans hD | exact ((calm_alloc _ _).trans (calm_alloc _ _)).trans hD
  replace hu1 := hidden hu1
  replace l_v := hidden (l_v.out.calm hT)
  replace hC := hidden (hC.out.trans hT)
  clear hD hT 
  go_wp2_with fail
  refine (hN.rank _ _ hn.out hu1.out _ hC.out).mono ?_
  rintro e w3 ⟨rfl, hD⟩
  have hT : GoX.Calm w2 w3 := by first | exact hD | exact (calm_alloc _ _).trans hD | exact ((calm_alloc _ _).trans (calm_alloc _ _)).trans hD
  replace l_v := hidden (l_v.out.calm hT)
  replace hC := hidden (hC.out.trans hT)
  clear hD hT hu1
  go_wp2_with fail
  refine (hF _ l_v.out).mono ?_
  rintro e w4 ⟨u2, rfl, hu2, hD⟩
  have hT : GoX.Calm w3 w4 := by first | exact hD | exact (calm_alloc _ _).trans hD | exact ((calm_alloc _ _).trans (calm_alloc _ _)).trans hD
  replace hu2 := hidden hu2
  replace l_v := hidden (l_v.out.calm hT)
  replace hC := hidden (hC.out.trans hT)
  clear hD hT 
  go_wp2_with fail
  refine (hN.next _ _ hn.out hu2.out _ hC.out).mono ?_
  rintro e w5 ⟨rfl, hD⟩
  have hT : GoX.Calm w4 w5 := by first | exact hD | exact (calm_alloc _ _).trans hD | exact ((calm_alloc _ _).trans (calm_alloc _ _)).trans hD
  replace l_v := hidden (l_v.out.calm hT)
  replace hC := hidden (hC.out.trans hT)
  clear hD hT hu2
  go_wp2_with fail
  refine (hN.count _ hn.out _ hC.out).mono ?_
  rintro e w6 ⟨rfl, hD⟩
  have hT : GoX.Calm w5 w6 := by first | exact hD | exact (calm_alloc _ _).trans hD | exact ((calm_alloc _ _).trans (calm_alloc _ _)).trans hD
  replace l_v := hidden (l_v.out.calm hT)
  replace hC := hidden (hC.out.trans hT)
  clear hD hT 
  go_wp2_with fail
  refine (hN.links _ hC.out).mono ?_
  rintro e w7 ⟨rfl, hD⟩
  have hT : GoX.Calm w6 w7 := by first | exact hD | exact (calm_alloc _ _).trans hD | exact ((calm_alloc _ _).trans (calm_alloc _ _)).trans hD
  replace l_v := hidden (l_v.out.calm hT)
  replace hC := hidden (hC.out.trans hT)
  clear hD hT 
  go_wp2_with fail
  refine (hN.lives _ hC.out).mono ?_
  rintro e w8 ⟨rfl, hD⟩
  have hT : GoX.Calm w7 w8 := by first | exact hD | exact (calm_alloc _ _).trans hD | exact ((calm_alloc _ _).trans (calm_alloc _ _)).trans hD
  replace l_v := hidden (l_v.out.calm hT)
  replace hC := hidden (hC.out.trans hT)
  clear hD hT 
  go_wp2
  go_ret
  exact ⟨by simp, hC.out⟩
end Go.Proofs.YtlamheddaejdbaaGreatDoor
