/-
  A VALUE, SOMEWHAT CUT, by contract.
-/
import Derived.Test.YtfjhiaafabmpbabCut
import Derived.Test.YtfjhiaafabmpbabVCmp2
import Derived.Laws.Rows
namespace Go.Proofs.Ytfjhiaafabmpbab
open Go.ChangeShapes Go.WideShapes Go.ChangeAt Go.RowKit

set_option maxHeartbeats 800000 in
theorem vfew_c (k n : Int) (s : ByteArray) (w : World) : Calls Try.prog 4 #[.agg #[.int .i64 k, .int .i64 n, .string s]] w
    fun e w' => e = .returned (.agg #[.int .i64 k, .int .i64 n, .string (cutB s 120)]) ∧ Below w.heap.size w w' := by
  have hc := fun w => cut_c s 120 w (by omega)
  generalize cutB s 120 = t at *
  go_enter Try.func4, Try.ntmps4
  go_wp2_with (go_at_call 8; refine (hc _).mono ?_; rintro e w' ⟨rfl, rfl⟩)
  refine bodyPost_ret (results_cell_row rfl _ _ (w.heap.size + 1) _ _ _ _ rfl (heap_alloc2_new _ _ _) Try.underlying24 rfl (by kernel_rfl)) rfl ⟨rfl, ?_⟩
  exact ((Below.refl _ _).alloc (Nat.le_refl _) _).alloc (by show _ ≤ (w.heap.push _).size; simp) _
end Go.Proofs.Ytfjhiaafabmpbab
