/-
  A CUT TEXT, by contract.
-/
import Derived.Test.YtnecfgmbfkocnahDoorSl
import Derived.Laws.Rows
import Derived.Laws.ResultCell
namespace Go.Proofs.YtnecfgmbfkocnahDoor
open Go.ChangeShapes Go.WideShapes Go.ChangeAt Go.RowKit

def cutB (s : ByteArray) (m : Nat) : ByteArray := if m < s.size then s.extract 0 m else s
theorem cutB_size (s : ByteArray) (m : Nat) : (cutB s m).size ≤ m := by
  unfold cutB; split
  · simp; omega
  · omega

set_option maxHeartbeats 800000 in
theorem cut_c (s : ByteArray) (m : Nat) (w : World) (hm : m ≤ 1000) :
    Calls Tryd.prog 9 #[.string s, .int .i64 m] w fun e w' => e = .returned (.string (cutB s m)) ∧ w' = w := by
  unfold cutB
  by_cases h : m < s.size
  · rw [if_pos h]
    go_enter Tryd.func9, Tryd.ntmps9
    go_wp2
    go_ret
    exact ⟨rfl, rfl⟩
  · rw [if_neg h]
    go_enter Tryd.func9, Tryd.ntmps9
    go_wp2
    go_ret
    exact ⟨rfl, rfl⟩
end Go.Proofs.YtnecfgmbfkocnahDoor
/-
  A VALUE, SOMEWHAT CUT, by contract.
-/
namespace Go.Proofs.YtnecfgmbfkocnahDoor
open Go.ChangeShapes Go.WideShapes Go.ChangeAt Go.RowKit

theorem heapTwo_new (w : World) (a b : Obj) : ((w.alloc a).alloc b).heap[w.heap.size + 1]? = some b := by
  rw [show w.heap.size + 1 = (w.alloc a).heap.size by show _ = (w.heap.push a).size; simp]
  exact heap_alloc_new _ _
set_option maxHeartbeats 800000 in
theorem vfew_c (k n : Int) (s : ByteArray) (w : World) : Calls Tryd.prog 10 #[.agg #[.int .i64 k, .int .i64 n, .string s]] w
    fun e w' => e = .returned (.agg #[.int .i64 k, .int .i64 n, .string (cutB s 120)]) ∧ Below w.heap.size w w' := by
  have hc := fun w => cut_c s 120 w (by omega)
  generalize cutB s 120 = t at *
  go_enter Tryd.func10, Tryd.ntmps10
  go_wp2_with (go_at_call 9; refine (hc _).mono ?_; rintro e w' ⟨rfl, rfl⟩)
  refine bodyPost_ret (results_cell_row rfl _ _ (w.heap.size + 1) _ _ _ _ rfl (heapTwo_new _ _ _) Tryd.underlying37 rfl (by kernel_rfl)) rfl ⟨rfl, ?_⟩
  exact ((Below.refl _ _).alloc (Nat.le_refl _) _).alloc (by show _ ≤ (w.heap.push _).size; simp) _
end Go.Proofs.YtnecfgmbfkocnahDoor
