/-
  HOPS IN MEMORY OF THEIR OWN, by contract.
-/
import Derived.Test.YtlamheddaejdbaaGreatDoorOpenH
import Derived.WalkSmall
import Derived.Test.YtlamheddaejdbaaGreatDoorCalms
namespace Go.Proofs.YtlamheddaejdbaaGreatDoor
open Go.ChangeShapes Go.WideShapes Go.ChangeAt Go.RowKit

theorem HoldsH.calm {w w' : World} {v : Value} {ps : List (Int × Bool)} (h : HoldsH w v ps) (hb : GoX.Calm w w') : HoldsH w' v ps := by
  obtain ⟨a, cap, h1, h2⟩ := h
  refine ⟨a, cap, h1, ?_⟩
  rcases h2 with h2 | ⟨b, off, h3, h4, h5⟩
  · exact .inl h2
  · have hbl := hb.block b h4
    refine .inr ⟨b, off, h3, ?_, fun j hj => ⟨?_, ?_⟩⟩
    · have : w'.heap[b]? = some (w.heap[b]) := by rw [hbl]; exact Array.getElem?_eq_getElem h4
      exact (Array.getElem?_eq_some_iff.1 this).1
    · rw [← (h5 j hj).1]; simp [World.cell?, hbl]
    · rw [← (h5 j hj).2]; simp [World.cell?, hbl]
theorem hops_at {w : World} {a : Option Addr} {ps : List (Int × Bool)} (h : ps = [] ∨ ∃ b off, a = some ⟨b, off, none⟩ ∧ b < w.heap.size ∧ ∀ j, j < ps.length → w.cell? ⟨b, off + j * 2, none⟩ = some (.int .i64 (ps.getD j (0, false)).1) ∧ w.cell? ⟨b, off + j * 2 + 1, none⟩ = some (.bool (ps.getD j (0, false)).2))
    {k : Nat} (hk : k < ps.length) : ∃ b off, a = some ⟨b, off, none⟩ ∧ b < w.heap.size ∧ w.cell? ⟨b, off + k * 2, none⟩ = some (.int .i64 (ps.getD k (0, false)).1) ∧ w.cell? ⟨b, off + k * 2 + 1, none⟩ = some (.bool (ps.getD k (0, false)).2) := by
  rcases h with rfl | ⟨b, off, h1, h2, h3⟩
  · exact absurd hk (by simp)
  · exact ⟨b, off, h1, h2, (h3 k hk).1, (h3 k hk).2⟩
theorem infoH : (Tryz.prog.info? 49).map (fun i => (i.zero, i.size, i.bytes)) = some (some (.agg #[.int .i64 0, .bool false]), 2, 16) := by kernel_rfl
set_option maxRecDepth 100000 in
set_option maxHeartbeats 800000 in
theorem hfew_c (v : Value) (ps : List (Int × Bool)) (w : World) (hv : HoldsH w v ps) (_hz : ps.length ≤ 9223372036854775807) :
    Calls Tryz.prog 6 #[v] w fun e w' => ∃ v', e = .returned v' ∧ v'.oneCell' = true ∧ Below w.heap.size w w' := by
  obtain ⟨a, cap, rfl, hrow⟩ := hv
  obtain ⟨i0, hi, hz0, hz1, hz2⟩ := info_parts infoH
  go_enter Tryz.func6, Tryz.ntmps6
  go_wp2
  go_loopw [3, 4] (fun u i wr => ∃ k : Nat, k ≤ ps.length ∧ k ≤ 8 ∧ i = .int .i64 k ∧ (∃ cs, wr.ownsRow w.heap.size 49 2 u k cs) ∧ u.oneCell' = true ∧ Below w.heap.size w wr)
    (fun _ i _ => ps.length - (intOf i).toNat)
  case atStart => exact ⟨0, Nat.zero_le _, Nat.zero_le _, rfl, ⟨_, World.ownsRow_made w #[] 0 (Nat.le_refl _) (by unfold maxLen; omega) rfl⟩, rfl, (Below.refl _ _).alloc (Nat.le_refl _) _⟩
  case round =>
    obtain ⟨k, hk, hkm, rfl, ⟨cs, hown⟩, hone, hnx⟩ := hrel
    by_cases hlt : k < ps.length ∧ k < 8
    · obtain ⟨hk1, hk2⟩ := hlt
      obtain ⟨b, off, rfl, hb, hc1, hc2⟩ := hops_at hrow hk1
      have hx1 : wr.cell? ⟨b, off + k * 2, none⟩ = some (.int .i64 (ps.getD k (0, false)).1) := (hnx.cell (by exact hb)).trans hc1
      have hx2 : wr.cell? ⟨b, off + k * 2 + 1, none⟩ = some (.bool (ps.getD k (0, false)).2) := (hnx.cell (by exact hb)).trans hc2
      have hsz := hnx.size
      clear hc1 hc2
      generalize ps.getD k (0, false) = p at *
      obtain ⟨x, y⟩ := p
      simp only at hx1 hx2
      go_wp2_with (at_builtin; refine wpList_append_own _ rfl _ _ 23 rfl w.heap.size 49 i0 (.agg #[.int .i64 0, .bool false]) 2 16 Tryz.underlying23 hi hz0 hz1 hz2 rfl (by decide) _ _ _ rfl (hown.alloc _) ⟨wr.heap.size, 0, none⟩ 1 1 [.int .i64 x, .bool y] rfl rfl (cell_two_new _ _ _ _) ?c2 ?c3 ?c4 ?c5 ?_)
      case c2 => intro u hu; simp at hu; rcases hu with rfl | rfl <;> rfl
      case c3 => unfold maxLen; omega
      case c4 => omega
      case c5 => simp; omega
      · intro v' w1 hown' hgrow _
        have hB : Below w.heap.size w w1 := (hnx.alloc (by omega) _).grown hgrow (by simp; omega) (fun j hj => by have := (hown.lt j hj).1; omega)
        clear hgrow hown hx1 hx2 hnx
        have hone' : v'.oneCell' = true := by
          rcases hown'.2 with ⟨rfl, _⟩ | ⟨_, _, _, rfl, _⟩ <;> rfl
        go_wp2
        go_roundw
        case rel => exact ⟨k + 1, by omega, by omega, by go_num, ⟨_, hown'⟩, hone', hB⟩
        case measure => simp [intOf]; omega
    · by_cases hk1 : k < ps.length
      · have hk2 : ¬ k < 8 := fun h => hlt ⟨hk1, h⟩
        clear hlt
        go_wp2
        go_ret
        exact ⟨_, rfl, hone, hnx⟩
      · clear hlt
        go_wp2
        go_ret
        exact ⟨_, rfl, hone, hnx⟩
end Go.Proofs.YtlamheddaejdbaaGreatDoor
