/-
  TEXTS AS LISTS OF BYTES; and a cut text, by contract.
-/
import Derived.Test.YtcdkpeikjnpmhabGreatVBack
namespace Go.Proofs.YtcdkpeikjnpmhabGreat
open Go.ChangeShapes Go.WideShapes Go.ChangeAt Go.RowKit

def bytesOf (l : List UInt8) : ByteArray := ⟨l.toArray⟩
theorem bytesOf_list (l : List UInt8) : (bytesOf l).data.toList = l := by simp [bytesOf]
theorem bytesOf_data (s : ByteArray) : bytesOf s.data.toList = s := by simp [bytesOf]
theorem bytesOf_append (a b : List UInt8) : bytesOf a ++ bytesOf b = bytesOf (a ++ b) := str_append a b
theorem bytesOf_size (l : List UInt8) : (bytesOf l).size = l.length := by simp [bytesOf, ByteArray.size]
def cutB (s : ByteArray) (m : Nat) : ByteArray := if m < s.size then s.extract 0 m else s
theorem cutB_size (s : ByteArray) (m : Nat) : (cutB s m).size ≤ m := by
  unfold cutB; split
  · simp; omega
  · omega

set_option maxHeartbeats 800000 in
theorem cut_c (s : ByteArray) (m : Nat) (w : World) (hm : m ≤ 1000) :
    Calls Tryz.prog 4 #[.string s, .int .i64 m] w fun e w' => e = .returned (.string (cutB s m)) ∧ w' = w := by
  unfold cutB
  by_cases h : m < s.size
  · rw [if_pos h]
    go_enter Tryz.func4, Tryz.ntmps4
    go_wp2
    go_ret
    exact ⟨rfl, rfl⟩
  · rw [if_neg h]
    go_enter Tryz.func4, Tryz.ntmps4
    go_wp2
    go_ret
    exact ⟨rfl, rfl⟩
end Go.Proofs.YtcdkpeikjnpmhabGreat
