/-
  TEXTS WITH THEIR LENGTHS: Text, and a cut text, by contract.
-/
import Derived.Test.YtmjffmjpefaafabVBack
namespace Go.Proofs.Ytmjffmjpefaafab
open Go.ChangeShapes Go.WideShapes Go.ChangeAt Go.RowKit

def bytesOf (l : List UInt8) : ByteArray := ⟨l.toArray⟩
theorem bytesOf_list (l : List UInt8) : (bytesOf l).data.toList = l := by simp [bytesOf]
theorem bytesOf_data (s : ByteArray) : bytesOf s.data.toList = s := by simp [bytesOf]
theorem bytesOf_append (a b : List UInt8) : bytesOf a ++ bytesOf b = bytesOf (a ++ b) := str_append a b
theorem bytesOf_size (l : List UInt8) : (bytesOf l).size = l.length := by simp [bytesOf, ByteArray.size]
def cutB (s : ByteArray) (m : Nat) : ByteArray := if m < s.size then s.extract 0 m else s
theorem cutB_size (s : ByteArray) (m : Nat) : (cutB s m).size ≤ m := by
  unfold cutB; split
  · simp; omega
  · omega

set_option maxHeartbeats 800000 in
theorem cut_c (s : ByteArray) (m : Nat) (w : World) (hm : m ≤ 1000) :
    Calls Try.prog 4 #[.string s, .int .i64 m] w fun e w' => e = .returned (.string (cutB s m)) ∧ w' = w := by
  unfold cutB
  by_cases h : m < s.size
  · rw [if_pos h]
    go_enter Try.func4, Try.ntmps4
    go_wp2
    go_ret
    exact ⟨rfl, rfl⟩
  · rw [if_neg h]
    go_enter Try.func4, Try.ntmps4
    go_wp2
    go_ret
    exact ⟨rfl, rfl⟩

set_option maxHeartbeats 800000 in
theorem text_c (t : ByteArray) (w : World) (ht : t.size ≤ 100000) :
    Calls Try.prog 7 #[.string t] w fun e w' => e = .returned (.string (bytesOf (put t.size) ++ t)) ∧ Below w.heap.size w w' := by
  have hp := putF_len 11 t.size
  have hps : (bytesOf (put t.size)).size ≤ 11 := by rw [bytesOf_size]; exact hp
  have hput : ∀ w : World, ∀ v, Holds w v [Value.int .u64 (t.size : Int)] → Calls Try.prog 12 #[v] w fun e w' => e = .returned (.string (bytesOf (put t.size))) ∧ Below w.heap.size w w' := fun w v hv => by
    have := put_c v [t.size] w hv (by simp) (by simp; omega)
    simp [bts] at this
    exact this
  have hH : Holds (w.alloc (.cells #[.int .u64 (t.size : Int)] 28)) (.slice (some ⟨w.heap.size, 0, none⟩) 1 1) [Value.int .u64 (t.size : Int)] :=
    ⟨_, 1, rfl, .inr ⟨w.heap.size, 0, rfl, by simp, fun j u hj => by
      have := cell_one_new w (.int .u64 (t.size : Int)) 28 j u hj
      match j, hj with
      | 0, hj => simpa [Addr.add] using this⟩⟩
  generalize bytesOf (put t.size) = P at *
  go_enter Try.func7, Try.ntmps7
  go_wp2_with (go_at_call 12; refine (hput _ _ hH).mono ?_; rintro e w' ⟨rfl, hB⟩)
  go_ret
  exact ⟨rfl, ((Below.refl _ _).alloc (Nat.le_refl _) _).trans (hB.mono (by simp))⟩
end Go.Proofs.Ytmjffmjpefaafab
