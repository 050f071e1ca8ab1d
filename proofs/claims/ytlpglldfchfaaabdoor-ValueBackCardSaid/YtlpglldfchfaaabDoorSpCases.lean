/-
  BYTES THAT NEED ANOTHER ONE AHEAD. Mathematics alone.
-/
import Derived.Test.YtlpglldfchfaaabDoorReadMath
namespace Go.Proofs.YtlpglldfchfaaabDoor
theorem sp_cases {b : Int} (h : isSp b = true) : b = 39 ∨ b = 92 := by
  unfold isSp at h
  simpa using h
theorem sp_not {b : Int} (h : isSp b = false) : b ≠ 39 ∧ b ≠ 92 := by
  unfold isSp at h
  simpa using h
end Go.Proofs.YtlpglldfchfaaabDoor
