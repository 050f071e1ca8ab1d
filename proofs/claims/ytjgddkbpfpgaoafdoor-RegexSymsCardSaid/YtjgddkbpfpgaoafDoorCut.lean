/-
  A CUT TEXT, by contract.
-/
import Derived.Test.YtjgddkbpfpgaoafDoorSl
namespace Go.Proofs.YtjgddkbpfpgaoafDoor
open Go.ChangeShapes Go.WideShapes Go.ChangeAt Go.RowKit

def cutB (s : ByteArray) (m : Nat) : ByteArray := if m < s.size then s.extract 0 m else s
theorem cutB_size (s : ByteArray) (m : Nat) : (cutB s m).size ≤ m := by
  unfold cutB; split
  · simp; omega
  · omega

set_option maxHeartbeats 800000 in
theorem cut_c (s : ByteArray) (m : Nat) (w : World) (hm : m ≤ 1000) :
    Calls Tryd.prog 18 #[.string s, .int .i64 m] w fun e w' => e = .returned (.string (cutB s m)) ∧ w' = w := by
  unfold cutB
  by_cases h : m < s.size
  · rw [if_pos h]
    go_enter Tryd.func18, Tryd.ntmps18
    go_wp2
    go_ret
    exact ⟨rfl, rfl⟩
  · rw [if_neg h]
    go_enter Tryd.func18, Tryd.ntmps18
    go_wp2
    go_ret
    exact ⟨rfl, rfl⟩
end Go.Proofs.YtjgddkbpfpgaoafDoor
