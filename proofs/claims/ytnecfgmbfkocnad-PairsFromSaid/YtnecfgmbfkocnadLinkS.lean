/-
  LINKS HELD AGAINST EACH OTHER: the reference's, by contract: where they are the same, it answers true.
-/
import Derived.Test.YtnecfgmbfkocnadLinkR
namespace Go.Proofs.Ytnecfgmbfkocnad
open Go.ChangeShapes Go.WideShapes Go.ChangeAt Go.RowKit

set_option maxHeartbeats 3200000 in
set_option maxRecDepth 100000 in
theorem lsame_c (va vb : Value) (ps : List Lk) (w : World) (hva : HoldsR linkR w va ps) (hvb : HoldsR linkR w vb ps) (hx : ps.length ≤ 1000) :
    Calls Try.prog 9 #[va, vb] w fun e w' => e = .returned (.bool true) ∧ Below w.heap.size w w' := by
  obtain ⟨a, cap, rfl, hra⟩ := hva
  obtain ⟨b, cap', rfl, hrb⟩ := hvb
  replace hra := hidden hra
  replace hrb := hidden hrb
  go_enter Try.func9, Try.ntmps9
  go_wp2
  go_loopw [5] (fun i wr => ∃ k : Nat, k ≤ ps.length ∧ i = .int .i64 k ∧ Hid (Below w.heap.size w wr))
    (fun i _ => ps.length - (intOf i).toNat)
  case atStart => exact ⟨0, Nat.zero_le _, rfl, Below.refl _ _⟩
  case round =>
    obtain ⟨k, hk, rfl, hnx⟩ := hrel
    by_cases hlt : k < ps.length
    · obtain ⟨b1, o1, rfl, hb1, c1, c2, c3, c4⟩ := link_at (hra.out.below hnx.out) hlt
      obtain ⟨b2, o2, rfl, hb2, d1, d2, d3, d4⟩ := link_at (hrb.out.below hnx.out) hlt
      have hj1 : (k : Int) < (ps.length : Int) := by omega
      generalize ps.getD k Lk.none = p at *
      obtain ⟨pa, pb, pc, pn⟩ := p
      simp only at c1 c2 c3 c4 d1 d2 d3 d4
      go_wp2
      go_quiet (fail)
      go_wp2
      go_roundw
      case rel => exact ⟨k + 1, by omega, by go_num, by first | exact hnx.out.drew | exact below_drewN hnx.out _ | exact hnx⟩
      case measure => simp [intOf]; omega
    · go_wp2
      go_ret
      exact ⟨rfl, hnx.out⟩
end Go.Proofs.Ytnecfgmbfkocnad
