/-
  A VALUE, SOMEWHAT CUT, by contract.
-/
import Derived.Test.YtpjcjlbjcegjgaaGreatDoorRegs
import Derived.Laws.Rows
import Derived.Laws.ResultCell
namespace Go.Proofs.YtpjcjlbjcegjgaaGreatDoor
open Go.ChangeShapes Go.WideShapes Go.ChangeAt Go.RowKit

theorem heapTwo_new (w : World) (a b : Obj) : ((w.alloc a).alloc b).heap[w.heap.size + 1]? = some b := by
  rw [show w.heap.size + 1 = (w.alloc a).heap.size by show _ = (w.heap.push a).size; simp]
  exact heap_alloc_new _ _
set_option maxHeartbeats 800000 in
theorem vfew_c (k n : Int) (s : ByteArray) (w : World) : Calls Tryz.prog 20 #[.agg #[.int .i64 k, .int .i64 n, .string s]] w
    fun e w' => e = .returned (.agg #[.int .i64 k, .int .i64 n, .string (cutB s 120)]) ∧ Below w.heap.size w w' := by
  have hc := fun w => cut_c s 120 w (by omega)
  generalize cutB s 120 = t at *
  go_enter Tryz.func20, Tryz.ntmps20
  go_wp2_with (go_at_call 6; refine (hc _).mono ?_; rintro e w' ⟨rfl, rfl⟩)
  refine bodyPost_ret (results_cell_row rfl _ _ (w.heap.size + 1) _ _ _ _ rfl (heapTwo_new _ _ _) Tryz.underlying40 rfl (by kernel_rfl)) rfl ⟨rfl, ?_⟩
  exact ((Below.refl _ _).alloc (Nat.le_refl _) _).alloc (by show _ ≤ (w.heap.push _).size; simp) _
end Go.Proofs.YtpjcjlbjcegjgaaGreatDoor
