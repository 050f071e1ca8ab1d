/-
  NO HEAP: what each call tells of it, by contract; and the law's own walk.
-/
import Derived.Test.YtieinedancdokagItem
namespace Go.Proofs.Ytieinedancdokag
open Go.ChangeShapes Go.WideShapes Go.ChangeAt Go.RowKit

set_option maxHeartbeats 800000 in
theorem hlenN_c (w : World) : Calls Try.prog 8 #[.pointer none] w fun e w' => e = .returned (.int .i64 0) ∧ w' = w := by
  go_enter Try.func8, Try.ntmps8
  go_wp2
  go_ret
  exact ⟨rfl, rfl⟩
set_option maxHeartbeats 800000 in
theorem hlistN_c (w : World) : Calls Try.prog 9 #[.pointer none] w fun e w' => e = .returned (.slice none 0 0) ∧ w' = w := by
  go_enter Try.func9, Try.ntmps9
  go_wp2
  go_ret
  exact ⟨rfl, rfl⟩
set_option maxHeartbeats 800000 in
theorem hpushN_c (y : It) (nv : Value) (w : World) : Calls Try.prog 4 #[.pointer none, itV y nv] w fun e w' => e = .returned (.tuple #[]) ∧ Below w.heap.size w w' := by
  simp only [itV]
  have hB := hiddenI (((Below.refl w.heap.size w).alloc (Nat.le_refl _) (.cells #[.pointer none] 25)).alloc (by show _ ≤ (w.heap.push _).size; simp) (.cells #[.int .i64 y.c, nv, .int .i64 y.p, .int .i64 y.r] 24))
  go_enter Try.func4, Try.ntmps4
  go_wp2
  exact bodyPost_ret (results_none rfl _ _ _) rfl ⟨rfl, hB.out⟩
def noneI : Array Value := #[.int .i64 0, .slice none 0 0, .int .i64 0, .int .i64 0]
set_option maxHeartbeats 800000 in
theorem hpopN_c (w : World) : Calls Try.prog 6 #[.pointer none] w fun e w' => e = .returned (.tuple #[.agg noneI, .bool false]) ∧ Below w.heap.size w w' := by
  have hl := fun w => hlenN_c w
  go_enter Try.func6, Try.ntmps6
  go_wp2_with fail
  refine (hl _).mono ?_
  rintro e w' ⟨rfl, rfl⟩
  clear hl
  go_wp2
  have h0 : (w.alloc (.cells noneI 24)).heap[w.heap.size]? = some (.cells noneI 24) := heap_alloc_new _ _
  have hR := run_loadVar_row (P := Try.prog) _ w.heap.size 24 24 _ _ _ h0 Try.underlying24 rfl (by kernel_rfl)
  unfold noneI at hR ⊢
  refine bodyPost_ret (v := .tuple #[.agg #[.int .i64 0, .slice none 0 0, .int .i64 0, .int .i64 0], .bool false]) ((results_cell_tmp rfl _ _ _).trans (by simp [asAddr, hR, Result.andThen])) rfl ⟨rfl, (Below.refl _ _).alloc (Nat.le_refl _) _⟩
set_option maxHeartbeats 800000 in
theorem hpeekN_c (w : World) : Calls Try.prog 7 #[.pointer none] w fun e w' => e = .returned (.tuple #[.agg noneI, .bool false]) ∧ Below w.heap.size w w' := by
  have hl := fun w => hlenN_c w
  go_enter Try.func7, Try.ntmps7
  go_wp2_with fail
  refine (hl _).mono ?_
  rintro e w' ⟨rfl, rfl⟩
  clear hl
  go_wp2
  have h0 : (w.alloc (.cells noneI 24)).heap[w.heap.size]? = some (.cells noneI 24) := heap_alloc_new _ _
  have hR := run_loadVar_row (P := Try.prog) _ w.heap.size 24 24 _ _ _ h0 Try.underlying24 rfl (by kernel_rfl)
  unfold noneI at hR ⊢
  refine bodyPost_ret (v := .tuple #[.agg #[.int .i64 0, .slice none 0 0, .int .i64 0, .int .i64 0], .bool false]) ((results_cell_tmp rfl _ _ _).trans (by simp [asAddr, hR, Result.andThen])) rfl ⟨rfl, (Below.refl _ _).alloc (Nat.le_refl _) _⟩
set_option maxHeartbeats 3200000 in
theorem law_c (y : It) (nv : Value) (w : World) (hv : Holds w nv (y.l.map (Value.int .i64))) (hz : y.l.length ≤ 9223372036854775807)
    (hlv : ∀ x, Calls Try.prog 10 #[] x fun e w' => e = .returned (.bool true) ∧ GoX.Calm x w') :
    Calls Try.prog 3 #[itV y nv] w fun e w' => e = .returned (.bool true) ∧ GoX.Calm w w' := by
  have hB1 : Below w.heap.size w (w.alloc (.cells #[.int .i64 y.c, nv, .int .i64 y.p, .int .i64 y.r] 24)) := (Below.refl _ _).alloc (Nat.le_refl _) _
  have hitem := item_c y nv _ (hv.below hB1) hz
  have hpush := hiddenI fun y nv w => hpushN_c y nv w
  have hpop := fun w => hpopN_c w
  have hpeek := fun w => hpeekN_c w
  have hlen := fun w => hlenN_c w
  have hlist := fun w => hlistN_c w
  replace hlv := hiddenI hlv
  generalize y.few 5 = y5 at *
  replace hB1 := hiddenI hB1
  unfold noneI at hpop hpeek
  clear hv hz
  unfold itV at hitem
  simp only [itV]
  have hs1 : Hid ((w.alloc (.cells #[.int .i64 y.c, nv, .int .i64 y.p, .int .i64 y.r] 24)).heap.size = w.heap.size + 1) := by show (w.heap.push _).size = _; simp
  go_enter Try.func3, Try.ntmps3
  go_wp2_with fail
  refine hitem.mono ?_
  rintro e w1 ⟨nv', rfl, -, hB⟩
  have hBw : Hid (Below w.heap.size w w1) := hB1.out.trans (hB.mono (by rw [hs1.out]; omega))
  clear hB hitem hB1 hs1
  go_wp2_with fail
  refine (hpush.out y5 nv' _).mono ?_
  rintro e w2 ⟨rfl, hB⟩
  replace hBw : Hid (Below w.heap.size w w2) := hBw.out.trans (hB.mono hBw.out.size)
  clear hB hpush
  go_wp2_with fail
  refine (hpop _).mono ?_
  rintro e w3 ⟨rfl, hB⟩
  replace hBw : Hid (Below w.heap.size w w3) := hBw.out.trans (hB.mono hBw.out.size)
  clear hB hpop
  go_wp2_with fail
  have hB4 : Hid (Below w.heap.size w (w3.alloc (.cells #[.int .i64 0, .slice none 0 0, .int .i64 0, .int .i64 0] 24))) := hBw.out.alloc hBw.out.size _
  refine (hpeek _).mono ?_
  rintro e w4 ⟨rfl, hB⟩
  replace hBw : Hid (Below w.heap.size w w4) := hB4.out.trans (hB.mono hB4.out.size)
  clear hB hpeek hB4
  go_wp2_with fail
  refine (hlen _).mono ?_
  rintro e w5 ⟨rfl, rfl⟩
  go_wp2_with fail
  refine (hlist _).mono ?_
  rintro e w6 ⟨rfl, rfl⟩
  have hB4 : Hid (Below w.heap.size w (w4.alloc (.cells #[.int .i64 0, .slice none 0 0, .int .i64 0, .int .i64 0] 24))) := hBw.out.alloc hBw.out.size _
  go_wp2_with fail
  refine (hlv.out _).mono ?_
  rintro e w7 ⟨rfl, hC⟩
  have hfin : Hid (GoX.Calm w w7) := (GoX.Calm.of_below hB4.out).trans hC
  clear hC hBw hB4
  go_wp2
  go_ret
  exact ⟨rfl, hfin.out⟩
end Go.Proofs.Ytieinedancdokag
