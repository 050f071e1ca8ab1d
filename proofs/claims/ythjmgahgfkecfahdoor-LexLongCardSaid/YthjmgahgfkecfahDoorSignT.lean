/-
  A QUERY's OWN WORDS AND SIGNS: the program's and the reference's, by contract.
-/
import Derived.Test.YthjmgahgfkecfahDoorLPrefix
import Derived.Test.YthjmgahgfkecfahDoorSl
namespace Go.Proofs.YthjmgahgfkecfahDoor
open Go.ChangeShapes Go.WideShapes Go.ChangeAt Go.RowKit

def keyL : List ByteArray := [⟨#[77, 65, 84, 67, 72]⟩, ⟨#[82, 69, 84, 85, 82, 78]⟩, ⟨#[79, 82, 68, 69, 82]⟩, ⟨#[66, 89]⟩, ⟨#[67, 79, 83, 84]⟩, ⟨#[83, 75, 73, 80]⟩, ⟨#[76, 73, 77, 73, 84]⟩, ⟨#[67, 79, 85, 78, 84]⟩, ⟨#[83, 72, 79, 82, 84, 69, 83, 84]⟩]
def keyB (s : ByteArray) : Bool := keyL.any fun t => decide (s = t)
theorem keyB_iff (s : ByteArray) : keyB s = true ↔ s ∈ keyL := by simp [keyB]
theorem ne_text {s : ByteArray} (l : List UInt8) (h : ¬ s = ⟨l.toArray⟩) : (s.toList == l) = false := by
  rw [Go.ByteArray.toList_eq, beq_eq_false_iff_ne]
  intro e
  exact h (ByteArray.ext (Array.ext' (by rw [e])))
theorem beq_texts (a b : ByteArray) : (a.toList == b.toList) = decide (a = b) := toList_beq a b

set_option maxHeartbeats 1600000 in
set_option maxRecDepth 100000 in
theorem key_c (s : ByteArray) (w : World) : Calls Tryd.prog 15 #[.string s] w fun e w' => e = .returned (.bool (keyB s)) ∧ w' = w := by
  by_cases h : s ∈ keyL
  · have hd : Hid (keyB s = true) := (keyB_iff s).2 h
    rw [hd.out]
    simp only [keyL, List.mem_cons, List.not_mem_nil, or_false] at h
    rcases h with rfl | rfl | rfl | rfl | rfl | rfl | rfl | rfl | rfl
    all_goals
      go_enter Tryd.func15, Tryd.ntmps15
      go_wp2
      go_ret
      exact ⟨rfl, rfl⟩
  · have hd : Hid (keyB s = false) := by
      show _ = _
      cases hh : keyB s with
      | false => rfl
      | true => exact absurd ((keyB_iff s).1 hh) h
    rw [hd.out]
    simp only [keyL, List.mem_cons, List.not_mem_nil, or_false, not_or] at h
    obtain ⟨h1, h2, h3, h4, h5, h6, h7, h8, h9⟩ := h
    have e1 := ne_text [77, 65, 84, 67, 72] h1
    have e2 := ne_text [82, 69, 84, 85, 82, 78] h2
    have e3 := ne_text [79, 82, 68, 69, 82] h3
    have e4 := ne_text [66, 89] h4
    have e5 := ne_text [67, 79, 83, 84] h5
    have e6 := ne_text [83, 75, 73, 80] h6
    have e7 := ne_text [76, 73, 77, 73, 84] h7
    have e8 := ne_text [67, 79, 85, 78, 84] h8
    have e9 := ne_text [83, 72, 79, 82, 84, 69, 83, 84] h9
    go_enter Tryd.func15, Tryd.ntmps15
    go_wp2
    go_ret
    exact ⟨rfl, rfl⟩
def siL : List ByteArray := [⟨#[45, 91]⟩, ⟨#[93, 45, 62]⟩, ⟨#[60, 45, 91]⟩, ⟨#[93, 45]⟩, ⟨#[40]⟩, ⟨#[41]⟩, ⟨#[123]⟩, ⟨#[125]⟩, ⟨#[44]⟩, ⟨#[58]⟩, ⟨#[46]⟩, ⟨#[124]⟩, ⟨#[94]⟩, ⟨#[42]⟩, ⟨#[43]⟩, ⟨#[63]⟩, ⟨#[61]⟩, ⟨#[60, 62]⟩, ⟨#[60]⟩, ⟨#[60, 61]⟩, ⟨#[62]⟩, ⟨#[62, 61]⟩]
theorem siL_len : siL.length = 22 := rfl
theorem siL_small : ∀ t ∈ siL, t.size ≤ 3 := by
  have h : (siL.all fun t => decide (t.size ≤ 3)) = true := by decide +kernel
  intro t ht
  simpa using List.all_eq_true.1 h t ht
def bestStep (s b t : ByteArray) : ByteArray := if b.size < t.size ∧ pref s t = true then t else b
def bestTo (s : ByteArray) (k : Nat) : ByteArray := (siL.take k).foldl (bestStep s) ⟨#[]⟩
def bestOf (s : ByteArray) : ByteArray := siL.foldl (bestStep s) ⟨#[]⟩
theorem bestTo_succ (s : ByteArray) (k : Nat) (hk : k < 22) : bestTo s (k + 1) = bestStep s (bestTo s k) (siL.getD k ⟨#[]⟩) := by
  have : siL.take (k + 1) = siL.take k ++ [siL.getD k ⟨#[]⟩] := by
    rw [List.take_add_one, List.getElem?_eq_getElem (show k < siL.length by rw [siL_len]; exact hk)]
    simp [List.getD, show k < siL.length by rw [siL_len]; exact hk]
  unfold bestTo
  rw [this, List.foldl_append]; rfl
theorem bestTo_all (s : ByteArray) : bestTo s 22 = bestOf s := by unfold bestTo bestOf; rw [List.take_of_length_le (by rw [siL_len]; exact Nat.le_refl _)]
theorem bestTo_small (s : ByteArray) : ∀ k, k ≤ 22 → (bestTo s k).size ≤ 3
  | 0, _ => by show (0 : Nat) ≤ 3; decide
  | k + 1, h => by
    rw [bestTo_succ s k (by omega)]
    unfold bestStep
    split
    · exact siL_small _ (by have hk : k < siL.length := by rw [siL_len]; omega
                            simp [List.getD, hk])
    · exact bestTo_small s k (by omega)
theorem siL_at {k : Nat} (hk : k < 22) : (siL.map Value.string)[k]? = some (.string (siL.getD k ⟨#[]⟩)) := by
  have h : k < siL.length := by rw [siL_len]; exact hk
  simp [List.getD, h]
theorem siL_size {k : Nat} (hk : k < 22) : (siL.getD k ⟨#[]⟩).size ≤ 3 := by
  have h : k < siL.length := by rw [siL_len]; exact hk
  exact siL_small _ (by simp [List.getD, h])

set_option maxHeartbeats 1600000 in
set_option maxRecDepth 100000 in
theorem sign_c (s : ByteArray) (w : World) (hsig : ∀ k, k < 22 → w.cell? ⟨0, k, none⟩ = some (.string (siL.getD k ⟨#[]⟩))) :
    Calls Tryd.prog 13 #[.string s] w fun e w' => e = .returned (.string (bestOf s)) ∧ w' = w := by
  have hpre := fun (t : ByteArray) (w : World) => prefix_c s t w
  have hstep := bestTo_succ s
  have hsm := bestTo_small s
  have hall : Hid (bestTo s 22 = bestOf s) := bestTo_all s
  have h0 : Hid (bestTo s 0 = ⟨#[]⟩) := (rfl : bestTo s 0 = ⟨#[]⟩)
  obtain ⟨X, hX⟩ : ∃ X, Hid (bestOf s = X) := ⟨_, (rfl : bestOf s = _)⟩
  rw [hX.out]
  go_enter Tryd.func13, Tryd.ntmps13
  go_wp2
  go_loop [3, 5] (fun best i => ∃ k : Nat, ∃ B : ByteArray, Hid (bestTo s k = B) ∧ B.size ≤ 3 ∧ k ≤ 22 ∧ i = .int .i64 k ∧ best = .string B) (fun _ i => 22 - (intOf i).toNat)
  case atStart => exact ⟨0, _, h0, by show (0 : Nat) ≤ 3; decide, by omega, rfl, rfl⟩
  case round =>
    obtain ⟨k, B, hb, hBs, hk, rfl, rfl⟩ := hrel
    by_cases hlt : k < 22
    · have hck := hsig k hlt
      have hcall := hpre (siL.getD k ⟨#[]⟩)
      have hst := hstep k hlt
      have hz := siL_size hlt
      rw [hb.out] at hst
      have hst : Hid (bestTo s (k + 1) = bestStep s B (siL.getD k ⟨#[]⟩)) := hst
      clear hpre hsig hX hb hstep hsm hall h0
      generalize siL.getD k ⟨#[]⟩ = P at *
      by_cases hsz : B.size < P.size
      · cases hp : pref s P with
        | true =>
          have hn : Hid (bestTo s (k + 1) = P) := by
            show _ = _
            rw [hst.out]; unfold bestStep; rw [if_pos ⟨hsz, hp⟩]
          rw [hp] at hcall
          clear hst hp
          go_wp2_with (go_at_call 19; refine (hcall _).mono ?_; rintro e w' ⟨rfl, rfl⟩)
          go_round
          case rel => exact ⟨k + 1, P, hn, hz, by omega, by go_num, rfl⟩
          case measure => simp [intOf]; omega
        | false =>
          have hn : Hid (bestTo s (k + 1) = B) := by
            show _ = _
            rw [hst.out]; unfold bestStep; rw [if_neg (by rw [hp]; simp)]
          rw [hp] at hcall
          clear hst hp
          go_wp2_with (go_at_call 19; refine (hcall _).mono ?_; rintro e w' ⟨rfl, rfl⟩)
          go_round
          case rel => exact ⟨k + 1, B, hn, hBs, by omega, by go_num, rfl⟩
          case measure => simp [intOf]; omega
      · have hn : Hid (bestTo s (k + 1) = B) := by
          show _ = _
          rw [hst.out]; unfold bestStep; rw [if_neg (fun h => hsz h.1)]
        clear hst
        go_wp2
        go_round
        case rel => exact ⟨k + 1, B, hn, hBs, by omega, by go_num, rfl⟩
        case measure => simp [intOf]; omega
    · obtain rfl : k = 22 := by omega
      have e : Hid (B = X) := by show _ = _; rw [← hb.out, hall.out, hX.out]
      clear hX hb hsig hpre hstep hsm hall h0
      go_wp2
      go_ret
      exact ⟨by rw [← e.out]; rfl, rfl⟩
end Go.Proofs.YthjmgahgfkecfahDoor
