/-
  THE LEAST OF NO VALUES, by contract; where the least of some stands.
-/
import Derived.Test.YtfjhiaafabmpbabLeast
namespace Go.Proofs.Ytfjhiaafabmpbab
open Go.ChangeShapes Go.WideShapes Go.ChangeAt Go.RowKit

set_option maxHeartbeats 800000 in
theorem least_none (v : Value) (w : World) (hv : HoldsV w v []) : Calls Try.prog 5 #[v] w fun e w' =>
    e = .returned (.tuple #[.agg #[.int .i64 0, .int .i64 0, .string ⟨#[]⟩], .bool false]) ∧ Below w.heap.size w w' := by
  obtain ⟨a, cap, rfl, -⟩ := hv
  simp only [List.length_nil]
  go_enter Try.func5, Try.ntmps5
  go_wp2
  have h0 : (w.alloc (.cells #[.int .i64 0, .int .i64 0, .string ⟨#[]⟩] 24)).heap[w.heap.size]? = some (.cells #[.int .i64 0, .int .i64 0, .string ⟨#[]⟩] 24) := heap_alloc_new _ _
  have hR := run_loadVar_row (P := Try.prog) _ w.heap.size 24 24 _ _ _ h0 Try.underlying24 rfl (by kernel_rfl)
  refine bodyPost_ret (v := .tuple #[.agg #[.int .i64 0, .int .i64 0, .string ⟨#[]⟩], .bool false]) ((results_cell_tmp rfl _ _ _).trans (by simp [asAddr, hR, Result.andThen])) rfl ⟨rfl, (Below.refl _ _).alloc (Nat.le_refl _) _⟩
theorem bestV_lt (ps : List V) (h : 0 < ps.length) : ∀ k, k ≤ ps.length → bestV ps k < ps.length
  | 0, _ => h
  | k + 1, hk => by
    unfold bestV
    split
    · omega
    · exact bestV_lt ps h k (by omega)
end Go.Proofs.Ytfjhiaafabmpbab
