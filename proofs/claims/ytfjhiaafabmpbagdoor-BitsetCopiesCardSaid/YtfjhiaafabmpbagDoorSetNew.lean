/-
  A SET MADE OF NUMBERS, by contract.
-/
import Derived.Test.YtfjhiaafabmpbagDoorSetAdd
namespace Go.Proofs.YtfjhiaafabmpbagDoor
open Go.ChangeShapes Go.WideShapes Go.ChangeAt Go.RowKit

theorem Added.mono {S S' : List Nat} {w w' : World} {b : Nat} {g g' : Option Nat} {ws ws' : List Nat} {p : Nat → Bool} (h : Added S w w' b g g' ws ws' p) (hS : ∀ k ∈ S, k ∈ S') : Added S' w w' b g g' ws ws' p :=
  ⟨h.lies, h.fit, h.is, h.save.mono hS, h.fresh⟩
/-- A set that was made just now. -/
structure Made (w w' : World) (b : Nat) (g : Option Nat) (ws : List Nat) (p : Nat → Bool) : Prop where
  lies : SetAt w' b g ws
  fit : Fit ws
  is : ∀ k, has ws k = p k
  below : Below w.heap.size w w'
  fresh : w.heap.size ≤ b ∧ ∀ x, g = some x → w.heap.size ≤ x
theorem take_snocI (zs : List Int) (k : Nat) (hk : k < zs.length) : zs.take (k + 1) = zs.take k ++ [zs.getD k 0] := by
  rw [List.take_add_one, List.getElem?_eq_getElem hk]; simp [List.getD, hk]
def inL (zs : List Int) (k : Nat) : Bool := zs.any fun z => good z && k == z.toNat
set_option maxHeartbeats 1600000 in
theorem new_c (v : Value) (zs : List Int) (w : World) (hv : Holds w v (zs.map (Value.int .i64))) (hz : zs.length ≤ 1000) (hw : ∀ z ∈ zs, z ≤ 9223372036854775807) :
    Calls Tryd.prog 4 #[v] w fun e w' => ∃ b, e = .returned (.pointer (some ⟨b, 0, none⟩)) ∧ ∃ g ws, Made w w' b g ws (inL zs) := by
  obtain ⟨a, cap, rfl, hrow⟩ := hv
  simp only [List.length_map]
  have hset : SetAt (w.alloc (.cells #[.slice none 0 0] 37)) w.heap.size none [] := ⟨heap_alloc_new _ _, fun _ => rfl, fun x hx => by cases hx⟩
  have hB0 : Below w.heap.size w (w.alloc (.cells #[.slice none 0 0] 37)) := (Below.refl _ _).alloc (Nat.le_refl _) _
  have hnone : ∀ k, has [] k = false := fun k => has_end (by simp)
  obtain ⟨qf, hqf⟩ : ∃ qf : Nat → Nat → Bool, Hid (∀ j, qf j = inL (zs.take j)) := ⟨fun j => inL (zs.take j), (fun _ => rfl : ∀ _, _ = _)⟩
  have hw := hidden hw
  go_enter Tryd.func4, Tryd.ntmps4
  go_wp2_with fail
  go_loopw [10] (fun i wr => ∃ (j : Nat) (g : Option Nat) (ws : List Nat), j ≤ zs.length ∧ i = .int .i64 j ∧ Made w wr w.heap.size g ws (qf j)) (fun i _ => zs.length - (intOf i).toNat)
  case atStart => exact ⟨0, none, [], Nat.zero_le _, rfl, ⟨hset, ⟨by simp, by simp⟩, fun k => by rw [hqf.out, hnone]; rfl, hB0, Nat.le_refl _, by simp⟩⟩
  case round =>
    obtain ⟨j, g, ws, hj, rfl, hM⟩ := hrel
    by_cases hlt : j < zs.length
    · rcases hrow with h0 | ⟨b, off, rfl, hb, hc⟩
      · simp only [List.map_eq_nil_iff] at h0; subst h0; simp at hlt
      have hcx : wr.cell? ⟨b, off + j, none⟩ = some (.int .i64 (zs.getD j 0)) := (hM.below.cell (by exact hb)).trans (hc j _ (by simp [hlt]))
      have hzw : zs.getD j 0 ≤ 9223372036854775807 := by
        have : zs.getD j 0 = zs[j] := by simp [hlt]
        rw [this]; exact hw.out _ (List.getElem_mem hlt)
      have hq : Hid (∀ k, qf (j + 1) k = (qf j k || (good (zs.getD j 0) && k == (zs.getD j 0).toNat))) := fun k => by
        rw [hqf.out, hqf.out, take_snocI zs j hlt]
        simp [inL]
      have hj1 : (j : Int) < (zs.length : Int) := by omega
      clear hc hset hB0
      generalize zs.getD j 0 = z at *
      have hadd := add_c w.heap.size g ws z wr hM.fit hM.lies hzw
      go_wp2_with fail
      refine hadd.mono ?_
      rintro e w2 ⟨rfl, g', ws', hA⟩
      clear hadd hcx
      have hM2 : Made w w2 w.heap.size g' ws' (qf (j + 1)) := by
        refine ⟨hA.lies, hA.fit, fun k => by rw [hA.is, hM.is, hq.out], hM.below.trans (hA.save.below hM.below.size fun k hk => ?_), Nat.le_refl _, fun x hx => ?_⟩
        · rcases List.mem_cons.1 hk with rfl | hk
          · exact Nat.le_refl _
          · exact hM.fresh.2 k (by cases g <;> simp_all)
        · rcases hA.fresh x hx with h1 | h1
          · exact hM.fresh.2 x h1
          · exact Nat.le_trans hM.below.size h1
      clear hA hM hq
      go_wp2
      go_roundw
      case rel => exact ⟨j + 1, g', ws', by omega, by go_num, hM2⟩
      case measure => simp [intOf]; omega
    · have hj1 : ¬ (j : Int) < (zs.length : Int) := by omega
      obtain rfl : j = zs.length := by omega
      clear hset hB0
      go_wp2
      go_ret
      refine ⟨_, rfl, g, ws, hM.lies, hM.fit, fun k => ?_, hM.below, hM.fresh⟩
      rw [hM.is, hqf.out, List.take_length]
end Go.Proofs.YtfjhiaafabmpbagDoor
