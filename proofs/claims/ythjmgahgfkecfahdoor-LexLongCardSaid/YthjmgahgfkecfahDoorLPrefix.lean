/-
  WHETHER A TEXT BEGINS WITH ANOTHER ONE: by contract.
-/
import Derived.Test.YthjmgahgfkecfahDoorRows1
import Derived.WalkSpells
namespace Go.Proofs.YthjmgahgfkecfahDoor
open Go.ChangeShapes Go.WideShapes Go.ChangeAt Go.RowKit

theorem toList_beq (a b : ByteArray) : (a.toList == b.toList) = decide (a = b) := by
  rw [Go.ByteArray.toList_eq, Go.ByteArray.toList_eq]
  by_cases h : a = b
  · subst h; simp
  · rw [decide_eq_false h, beq_eq_false_iff_ne]
    intro e
    exact h (ByteArray.ext (Array.ext' e))
def pref (s t : ByteArray) : Bool := decide (t.size ≤ s.size) && decide (s.extract 0 t.size = t)
set_option maxHeartbeats 800000 in
theorem lprefix_c (s t : ByteArray) (w : World) : Calls Tryd.prog 23 #[.string s, .string t] w fun e w' => e = .returned (.bool (pref s t)) ∧ w' = w := by
  by_cases h1 : t.size ≤ s.size
  · by_cases h2 : s.extract 0 t.size = t
    · have e : Hid (pref s t = true) := by show _ = _; unfold pref; simp [h1, h2]
      rw [e.out]
      go_enter Tryd.func23, Tryd.ntmps23
      go_wp2
      go_ret
      exact ⟨rfl, rfl⟩
    · have e : Hid (pref s t = false) := by show _ = _; unfold pref; simp [h2]
      rw [e.out]
      have hne : ((s.extract 0 t.size).toList == t.toList) = false := by rw [toList_beq]; exact decide_eq_false h2
      go_enter Tryd.func23, Tryd.ntmps23
      go_wp2
      go_ret
      exact ⟨rfl, rfl⟩
  · have e : Hid (pref s t = false) := by show _ = _; unfold pref; simp [h1]
    rw [e.out]
    go_enter Tryd.func23, Tryd.ntmps23
    go_wp2
    go_ret
    exact ⟨rfl, rfl⟩
theorem prefix_c (s t : ByteArray) (w : World) : Calls Tryd.prog 19 #[.string s, .string t] w fun e w' => e = .returned (.bool (pref s t)) ∧ w' = w := by
  have h := fun w => lprefix_c s t w
  go_enter Tryd.func19, Tryd.ntmps19
  go_wp2_with (go_at_call 23; refine (h _).mono ?_; rintro e w' ⟨rfl, rfl⟩)
  go_ret
  exact ⟨rfl, rfl⟩

theorem pref_no1 {s t : ByteArray} (h : ¬ t.size ≤ s.size) : pref s t = false := by unfold pref; simp [h]
theorem pref_no2 {s t : ByteArray} (h : ¬ s.extract 0 t.size = t) : pref s t = false := by unfold pref; simp [h]
theorem pref_yes {s t : ByteArray} (h : t.size ≤ s.size) (h2 : s.extract 0 t.size = t) : pref s t = true := by unfold pref; simp [h, h2]
end Go.Proofs.YthjmgahgfkecfahDoor
