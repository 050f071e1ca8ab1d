/-
  A TEXT IN A CELL. No function is named here.
-/
import Derived.Test.YtlpglldfchfaaabDoorXCodeG
namespace Go.Proofs.YtlpglldfchfaaabDoor
theorem cell_str {P : Program} {w : World} {r : Reach} {base : Nat} {u : TypeId} {x : Value} (hu : P.underlying u = some .string) (h : Cell.okWide P w r base u x) : ∃ s, x = .string s := by
  unfold Cell.okWide at h
  rw [hu] at h
  unfold Cell.ok at h
  rw [hu] at h
  cases x <;> simp_all
end Go.Proofs.YtlpglldfchfaaabDoor
