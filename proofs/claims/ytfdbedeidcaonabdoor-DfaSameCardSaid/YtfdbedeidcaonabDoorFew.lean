/-
  A COPY OF SOME NUMBERS: Few, by its contract.
-/
import Derived.Test.YtfdbedeidcaonabDoorSl
namespace Go.Proofs.YtfdbedeidcaonabDoor
open Go.ChangeShapes Go.WideShapes Go.ChangeAt Go.RowKit

theorem infoInt : (Tryd.prog.info? 3).map (fun i => (i.zero, i.size, i.bytes)) = some (some (.int .i64 0), 1, 8) := by kernel_rfl
theorem take_snoc (zs : List Int) (k : Nat) (hk : k < zs.length) : zs.take (k + 1) = zs.take k ++ [zs.getD k 0] := by
  rw [List.take_add_one, List.getElem?_eq_getElem hk]; simp [List.getD, hk]

set_option maxHeartbeats 800000 in
set_option maxRecDepth 1000000 in
theorem few_c (v : Value) (zs : List Int) (m : Nat) (w : World) (hv : Holds w v (zs.map (Value.int .i64))) (hz : zs.length ≤ 9223372036854775807) (hm : m ≤ 1000) :
    Calls Tryd.prog 10 #[v, .int .i64 m] w fun e w' =>
      ∃ v', e = .returned v' ∧ w'.ownsRow w.heap.size 3 1 v' (zs.take m).length ((zs.take m).map (Value.int .i64)) ∧ Below w.heap.size w w' := by
  obtain ⟨a, cap, rfl, hrow⟩ := hv
  rw [List.length_map]
  obtain ⟨i0, hi, hz0, hz1, hz2⟩ := info_parts infoInt
  go_enter Tryd.func10, Tryd.ntmps10
  go_wp2
  go_loopw [5, 6] (fun u i wr => ∃ k : Nat, k ≤ zs.length ∧ k ≤ m ∧ i = .int .i64 k ∧ wr.ownsRow w.heap.size 3 1 u (zs.take k).length ((zs.take k).map (Value.int .i64)) ∧ Below w.heap.size w wr)
    (fun _ i _ => zs.length - (intOf i).toNat)
  case atStart => exact ⟨0, Nat.zero_le _, Nat.zero_le _, rfl, World.ownsRow_made w #[] 0 (Nat.le_refl _) (by unfold maxLen; omega) rfl, (Below.refl _ _).alloc (Nat.le_refl _) _⟩
  case round =>
    obtain ⟨k, hk, hkm, rfl, hown, hnx⟩ := hrel
    by_cases hlt : k < zs.length ∧ k < m
    · obtain ⟨hk1, hk2⟩ := hlt
      rcases hrow with h0 | ⟨b, off, rfl, hb, hc⟩
      · simp only [List.map_eq_nil_iff] at h0; subst h0; simp at hk1
      have hcx : wr.cell? ⟨b, off + k, none⟩ = some (.int .i64 (zs.getD k 0)) := (hnx.cell (by exact hb)).trans (hc k _ (by simp [hk1]))
      have hsz := hnx.size
      have htk : (zs.take k).length = k := by rw [List.length_take]; omega
      have hts := take_snoc zs k hk1
      clear hc
      generalize zs.getD k 0 = z at *
      go_wp2_with (at_builtin; refine wpList_append_own _ rfl _ _ 28 rfl w.heap.size 3 i0 (.int .i64 0) 1 8 Tryd.underlying28 hi hz0 hz1 hz2 rfl (by decide) _ _ _ rfl (hown.alloc _) ⟨wr.heap.size, 0, none⟩ 1 1 [.int .i64 z] rfl rfl (cell_one_new _ _ _) ?c2 ?c3 ?c4 ?c5 ?_)
      case c2 => intro u hu; simp at hu; subst hu; rfl
      case c3 => rw [htk]; unfold maxLen; omega
      case c4 => rw [htk]; omega
      case c5 => simp; omega
      · intro v' w1 hown' hgrow _
        have hlt2 : (zs.take (k + 1)).length = k + 1 := by rw [List.length_take]; omega
        have hB : Below w.heap.size w w1 := (hnx.alloc (by omega) _).grown hgrow (by simp; omega) (fun j hj => by have := (hown.lt j hj).1; omega)
        clear hgrow hown hcx hnx
        go_wp2
        go_roundw
        case rel => exact ⟨k + 1, by omega, by omega, by go_num, by rw [hlt2, hts]; simpa [htk] using hown', hB⟩
        case measure => simp [intOf]; omega
    · have e : zs.take m = zs.take k := by
        rcases Nat.lt_or_ge k zs.length with h | h
        · obtain rfl : k = m := by omega
          rfl
        · rw [List.take_of_length_le h, List.take_of_length_le (by omega)]
      by_cases hk1 : k < zs.length
      · have hk2 : ¬ k < m := fun h => hlt ⟨hk1, h⟩
        clear hlt
        go_wp2
        go_ret
        exact ⟨_, rfl, by rw [e]; exact hown, hnx⟩
      · clear hlt
        go_wp2
        go_ret
        exact ⟨_, rfl, by rw [e]; exact hown, hnx⟩
end Go.Proofs.YtfdbedeidcaonabDoor
