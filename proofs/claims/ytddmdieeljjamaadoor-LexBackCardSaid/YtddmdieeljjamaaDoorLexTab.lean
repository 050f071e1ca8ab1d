/-
  WHETHER A TEXT BEGINS WITH ANOTHER ONE: by contract.
-/
import Derived.Test.YtddmdieeljjamaaDoorSl
import Derived.WalkSpells
namespace Go.Proofs.YtddmdieeljjamaaDoor
open Go.ChangeShapes Go.WideShapes Go.ChangeAt Go.RowKit

theorem toList_beq (a b : ByteArray) : (a.toList == b.toList) = decide (a = b) := by
  rw [Go.ByteArray.toList_eq, Go.ByteArray.toList_eq]
  by_cases h : a = b
  · subst h; simp
  · rw [decide_eq_false h, beq_eq_false_iff_ne]
    intro e
    exact h (ByteArray.ext (Array.ext' e))
def pref (s t : ByteArray) : Bool := decide (t.size ≤ s.size) && decide (s.extract 0 t.size = t)
set_option maxHeartbeats 800000 in
theorem lprefix_c (s t : ByteArray) (w : World) : Calls Tryd.prog 58 #[.string s, .string t] w fun e w' => e = .returned (.bool (pref s t)) ∧ w' = w := by
  by_cases h1 : t.size ≤ s.size
  · by_cases h2 : s.extract 0 t.size = t
    · have e : Hid (pref s t = true) := by show _ = _; unfold pref; simp [h1, h2]
      rw [e.out]
      go_enter Tryd.func58, Tryd.ntmps58
      go_wp2
      go_ret
      exact ⟨rfl, rfl⟩
    · have e : Hid (pref s t = false) := by show _ = _; unfold pref; simp [h2]
      rw [e.out]
      have hne : ((s.extract 0 t.size).toList == t.toList) = false := by rw [toList_beq]; exact decide_eq_false h2
      go_enter Tryd.func58, Tryd.ntmps58
      go_wp2
      go_ret
      exact ⟨rfl, rfl⟩
  · have e : Hid (pref s t = false) := by show _ = _; unfold pref; simp [h1]
    rw [e.out]
    go_enter Tryd.func58, Tryd.ntmps58
    go_wp2
    go_ret
    exact ⟨rfl, rfl⟩
theorem prefix_c (s t : ByteArray) (w : World) : Calls Tryd.prog 51 #[.string s, .string t] w fun e w' => e = .returned (.bool (pref s t)) ∧ w' = w := by
  have h := fun w => lprefix_c s t w
  go_enter Tryd.func51, Tryd.ntmps51
  go_wp2_with (go_at_call 58; refine (h _).mono ?_; rintro e w' ⟨rfl, rfl⟩)
  go_ret
  exact ⟨rfl, rfl⟩

theorem pref_no1 {s t : ByteArray} (h : ¬ t.size ≤ s.size) : pref s t = false := by unfold pref; simp [h]
theorem pref_no2 {s t : ByteArray} (h : ¬ s.extract 0 t.size = t) : pref s t = false := by unfold pref; simp [h]
theorem pref_yes {s t : ByteArray} (h : t.size ≤ s.size) (h2 : s.extract 0 t.size = t) : pref s t = true := by unfold pref; simp [h, h2]
end Go.Proofs.YtddmdieeljjamaaDoor
/-
  A QUERY's OWN WORDS AND SIGNS: the program's and the reference's, by contract.
-/
namespace Go.Proofs.YtddmdieeljjamaaDoor
open Go.ChangeShapes Go.WideShapes Go.ChangeAt Go.RowKit

def keyL : List ByteArray := [⟨#[77, 65, 84, 67, 72]⟩, ⟨#[82, 69, 84, 85, 82, 78]⟩, ⟨#[79, 82, 68, 69, 82]⟩, ⟨#[66, 89]⟩, ⟨#[67, 79, 83, 84]⟩, ⟨#[83, 75, 73, 80]⟩, ⟨#[76, 73, 77, 73, 84]⟩, ⟨#[67, 79, 85, 78, 84]⟩, ⟨#[83, 72, 79, 82, 84, 69, 83, 84]⟩]
def keyB (s : ByteArray) : Bool := keyL.any fun t => decide (s = t)
theorem keyB_iff (s : ByteArray) : keyB s = true ↔ s ∈ keyL := by simp [keyB]
theorem ne_text {s : ByteArray} (l : List UInt8) (h : ¬ s = ⟨l.toArray⟩) : (s.toList == l) = false := by
  rw [Go.ByteArray.toList_eq, beq_eq_false_iff_ne]
  intro e
  exact h (ByteArray.ext (Array.ext' (by rw [e])))
theorem beq_texts (a b : ByteArray) : (a.toList == b.toList) = decide (a = b) := toList_beq a b

set_option maxHeartbeats 1600000 in
set_option maxRecDepth 100000 in
theorem key_c (s : ByteArray) (w : World) : Calls Tryd.prog 47 #[.string s] w fun e w' => e = .returned (.bool (keyB s)) ∧ w' = w := by
  by_cases h : s ∈ keyL
  · have hd : Hid (keyB s = true) := (keyB_iff s).2 h
    rw [hd.out]
    simp only [keyL, List.mem_cons, List.not_mem_nil, or_false] at h
    rcases h with rfl | rfl | rfl | rfl | rfl | rfl | rfl | rfl | rfl
    all_goals
      go_enter Tryd.func47, Tryd.ntmps47
      go_wp2
      go_ret
      exact ⟨rfl, rfl⟩
  · have hd : Hid (keyB s = false) := by
      show _ = _
      cases hh : keyB s with
      | false => rfl
      | true => exact absurd ((keyB_iff s).1 hh) h
    rw [hd.out]
    simp only [keyL, List.mem_cons, List.not_mem_nil, or_false, not_or] at h
    obtain ⟨h1, h2, h3, h4, h5, h6, h7, h8, h9⟩ := h
    have e1 := ne_text [77, 65, 84, 67, 72] h1
    have e2 := ne_text [82, 69, 84, 85, 82, 78] h2
    have e3 := ne_text [79, 82, 68, 69, 82] h3
    have e4 := ne_text [66, 89] h4
    have e5 := ne_text [67, 79, 83, 84] h5
    have e6 := ne_text [83, 75, 73, 80] h6
    have e7 := ne_text [76, 73, 77, 73, 84] h7
    have e8 := ne_text [67, 79, 85, 78, 84] h8
    have e9 := ne_text [83, 72, 79, 82, 84, 69, 83, 84] h9
    go_enter Tryd.func47, Tryd.ntmps47
    go_wp2
    go_ret
    exact ⟨rfl, rfl⟩
def siL : List ByteArray := [⟨#[45, 91]⟩, ⟨#[93, 45, 62]⟩, ⟨#[60, 45, 91]⟩, ⟨#[93, 45]⟩, ⟨#[40]⟩, ⟨#[41]⟩, ⟨#[123]⟩, ⟨#[125]⟩, ⟨#[44]⟩, ⟨#[58]⟩, ⟨#[46]⟩, ⟨#[124]⟩, ⟨#[94]⟩, ⟨#[42]⟩, ⟨#[43]⟩, ⟨#[63]⟩, ⟨#[61]⟩, ⟨#[60, 62]⟩, ⟨#[60]⟩, ⟨#[60, 61]⟩, ⟨#[62]⟩, ⟨#[62, 61]⟩]
theorem siL_len : siL.length = 22 := rfl
theorem siL_small : ∀ t ∈ siL, t.size ≤ 3 := by
  have h : (siL.all fun t => decide (t.size ≤ 3)) = true := by decide +kernel
  intro t ht
  simpa using List.all_eq_true.1 h t ht
def bestStep (s b t : ByteArray) : ByteArray := if b.size < t.size ∧ pref s t = true then t else b
def bestTo (s : ByteArray) (k : Nat) : ByteArray := (siL.take k).foldl (bestStep s) ⟨#[]⟩
def bestOf (s : ByteArray) : ByteArray := siL.foldl (bestStep s) ⟨#[]⟩
theorem bestTo_succ (s : ByteArray) (k : Nat) (hk : k < 22) : bestTo s (k + 1) = bestStep s (bestTo s k) (siL.getD k ⟨#[]⟩) := by
  have : siL.take (k + 1) = siL.take k ++ [siL.getD k ⟨#[]⟩] := by
    rw [List.take_add_one, List.getElem?_eq_getElem (show k < siL.length by rw [siL_len]; exact hk)]
    simp [List.getD, show k < siL.length by rw [siL_len]; exact hk]
  unfold bestTo
  rw [this, List.foldl_append]; rfl
theorem bestTo_all (s : ByteArray) : bestTo s 22 = bestOf s := by unfold bestTo bestOf; rw [List.take_of_length_le (by rw [siL_len]; exact Nat.le_refl _)]
theorem bestTo_small (s : ByteArray) : ∀ k, k ≤ 22 → (bestTo s k).size ≤ 3
  | 0, _ => by show (0 : Nat) ≤ 3; decide
  | k + 1, h => by
    rw [bestTo_succ s k (by omega)]
    unfold bestStep
    split
    · exact siL_small _ (by have hk : k < siL.length := by rw [siL_len]; omega
                            simp [List.getD, hk])
    · exact bestTo_small s k (by omega)
theorem siL_at {k : Nat} (hk : k < 22) : (siL.map Value.string)[k]? = some (.string (siL.getD k ⟨#[]⟩)) := by
  have h : k < siL.length := by rw [siL_len]; exact hk
  simp [List.getD, h]
theorem siL_size {k : Nat} (hk : k < 22) : (siL.getD k ⟨#[]⟩).size ≤ 3 := by
  have h : k < siL.length := by rw [siL_len]; exact hk
  exact siL_small _ (by simp [List.getD, h])

set_option maxHeartbeats 1600000 in
set_option maxRecDepth 100000 in
theorem sign_c (s : ByteArray) (w : World) (hsig : ∀ k, k < 22 → w.cell? ⟨0, k, none⟩ = some (.string (siL.getD k ⟨#[]⟩))) :
    Calls Tryd.prog 37 #[.string s] w fun e w' => e = .returned (.string (bestOf s)) ∧ w' = w := by
  have hpre := fun (t : ByteArray) (w : World) => prefix_c s t w
  have hstep := bestTo_succ s
  have hsm := bestTo_small s
  have hall : Hid (bestTo s 22 = bestOf s) := bestTo_all s
  have h0 : Hid (bestTo s 0 = ⟨#[]⟩) := (rfl : bestTo s 0 = ⟨#[]⟩)
  obtain ⟨X, hX⟩ : ∃ X, Hid (bestOf s = X) := ⟨_, (rfl : bestOf s = _)⟩
  rw [hX.out]
  go_enter Tryd.func37, Tryd.ntmps37
  go_wp2
  go_loop [3, 5] (fun best i => ∃ k : Nat, ∃ B : ByteArray, Hid (bestTo s k = B) ∧ B.size ≤ 3 ∧ k ≤ 22 ∧ i = .int .i64 k ∧ best = .string B) (fun _ i => 22 - (intOf i).toNat)
  case atStart => exact ⟨0, _, h0, by show (0 : Nat) ≤ 3; decide, by omega, rfl, rfl⟩
  case round =>
    obtain ⟨k, B, hb, hBs, hk, rfl, rfl⟩ := hrel
    by_cases hlt : k < 22
    · have hck := hsig k hlt
      have hcall := hpre (siL.getD k ⟨#[]⟩)
      have hst := hstep k hlt
      have hz := siL_size hlt
      rw [hb.out] at hst
      have hst : Hid (bestTo s (k + 1) = bestStep s B (siL.getD k ⟨#[]⟩)) := hst
      clear hpre hsig hX hb hstep hsm hall h0
      generalize siL.getD k ⟨#[]⟩ = P at *
      by_cases hsz : B.size < P.size
      · cases hp : pref s P with
        | true =>
          have hn : Hid (bestTo s (k + 1) = P) := by
            show _ = _
            rw [hst.out]; unfold bestStep; rw [if_pos ⟨hsz, hp⟩]
          rw [hp] at hcall
          clear hst hp
          go_wp2_with (go_at_call 51; refine (hcall _).mono ?_; rintro e w' ⟨rfl, rfl⟩)
          go_round
          case rel => exact ⟨k + 1, P, hn, hz, by omega, by go_num, rfl⟩
          case measure => simp [intOf]; omega
        | false =>
          have hn : Hid (bestTo s (k + 1) = B) := by
            show _ = _
            rw [hst.out]; unfold bestStep; rw [if_neg (by rw [hp]; simp)]
          rw [hp] at hcall
          clear hst hp
          go_wp2_with (go_at_call 51; refine (hcall _).mono ?_; rintro e w' ⟨rfl, rfl⟩)
          go_round
          case rel => exact ⟨k + 1, B, hn, hBs, by omega, by go_num, rfl⟩
          case measure => simp [intOf]; omega
      · have hn : Hid (bestTo s (k + 1) = B) := by
          show _ = _
          rw [hst.out]; unfold bestStep; rw [if_neg (fun h => hsz h.1)]
        clear hst
        go_wp2
        go_round
        case rel => exact ⟨k + 1, B, hn, hBs, by omega, by go_num, rfl⟩
        case measure => simp [intOf]; omega
    · obtain rfl : k = 22 := by omega
      have e : Hid (B = X) := by show _ = _; rw [← hb.out, hall.out, hX.out]
      clear hX hb hsig hpre hstep hsm hall h0
      go_wp2
      go_ret
      exact ⟨by rw [← e.out]; rfl, rfl⟩

set_option maxHeartbeats 800000 in
set_option maxRecDepth 100000 in
theorem rsigns_c (w : World) : Calls Tryd.prog 41 #[] w fun e w' => e = .returned (.slice (some ⟨w.heap.size, 0, none⟩) 22 22) ∧ w' = w.alloc (.cells (siL.map Value.string).toArray 9) := by
  go_enter Tryd.func41, Tryd.ntmps41
  go_wp2
  go_ret
  exact ⟨rfl, rfl⟩
set_option maxHeartbeats 800000 in
set_option maxRecDepth 100000 in
theorem rkeys_c (w : World) : Calls Tryd.prog 39 #[] w fun e w' => e = .returned (.slice (some ⟨w.heap.size, 0, none⟩) 9 9) ∧ w' = w.alloc (.cells (keyL.map Value.string).toArray 9) := by
  go_enter Tryd.func39, Tryd.ntmps39
  go_wp2
  go_ret
  exact ⟨rfl, rfl⟩
set_option maxHeartbeats 1600000 in
set_option maxRecDepth 100000 in
theorem rkey_c (s : ByteArray) (w : World) : Calls Tryd.prog 24 #[.string s] w fun e w' => e = .returned (.bool (keyB s)) ∧ Below w.heap.size w w' := by
  have hkeys := rkeys_c w
  have hat : ∀ k, k < 9 → (w.alloc (.cells (keyL.map Value.string).toArray 9)).cell? ⟨w.heap.size, k, none⟩ = some (.string (keyL.getD k ⟨#[]⟩)) := fun k hk => by
    have h : k < keyL.length := hk
    rw [World.cell?_alloc_new]
    simp [List.getD, h]
  have hlen : keyL.length = 9 := rfl
  have hin := keyB_iff s
  have hmem : ∀ k, k < 9 → keyL.getD k ⟨#[]⟩ ∈ keyL := fun k hk => by
    have h : k < keyL.length := hk
    simp [List.getD, h]
  have hall : (∀ j, j < 9 → ¬ keyL.getD j ⟨#[]⟩ = s) → ¬ s ∈ keyL := fun h hm => by
    obtain ⟨j, hj, e⟩ := List.mem_iff_getElem.1 hm
    exact h j hj (by simp [List.getD, hj, e])
  have hB : Below w.heap.size w (w.alloc (.cells (keyL.map Value.string).toArray 9)) := (Below.refl _ _).alloc (Nat.le_refl _) _
  generalize (w.alloc (.cells (keyL.map Value.string).toArray 9)) = w1 at *
  obtain ⟨X, hX⟩ : ∃ X, Hid (keyB s = X) := ⟨_, (rfl : keyB s = _)⟩
  rw [hX.out]
  go_enter Tryd.func24, Tryd.ntmps24
  go_wp2_with (go_at_call 39; refine hkeys.mono ?_; rintro e w' ⟨rfl, rfl⟩)
  go_loop [4] (fun i => ∃ k : Nat, i = .int .i64 k ∧ k ≤ 9 ∧ Hid (∀ j, j < k → ¬ keyL.getD j ⟨#[]⟩ = s)) (fun i => 9 - (intOf i).toNat)
  case atStart => exact ⟨0, rfl, by omega, fun j hj => by omega⟩
  case round =>
    obtain ⟨k, rfl, hk, hH⟩ := hrel
    by_cases hlt : k < 9
    · have hck := hat k hlt
      have hm := hmem k hlt
      have hH2 : ¬ keyL.getD k ⟨#[]⟩ = s → Hid (∀ j, j < k + 1 → ¬ keyL.getD j ⟨#[]⟩ = s) := fun h j hj => by
        rcases Nat.lt_or_ge j k with h' | h'
        · exact hH.out j h'
        · obtain rfl : j = k := by omega
          exact h
      clear hat hmem hall hH hkeys
      generalize keyL.getD k ⟨#[]⟩ = P at *
      by_cases he : P = s
      · subst he
        have hT : Hid (X = true) := by show _ = _; rw [← hX.out]; exact hin.2 hm
        clear hin hm hH2 hX
        go_wp2
        go_ret
        exact ⟨by rw [hT.out]; rfl, hB⟩
      · have hn := hH2 he
        have hne : (P.toList == s.toList) = false := by rw [beq_texts]; exact decide_eq_false he
        clear hin hm hH2 hX
        go_wp2
        go_round
        case rel => exact ⟨k + 1, by go_num, by omega, hn⟩
        case measure => simp [intOf]; omega
    · obtain rfl : k = 9 := by omega
      have hF : Hid (X = false) := by
        show _ = _
        rw [← hX.out]
        cases hh : keyB s with
        | false => rfl
        | true => exact absurd (hin.1 hh) (hall hH.out)
      clear hin hX hat hmem hall hH hkeys
      go_wp2
      go_ret
      exact ⟨by rw [hF.out]; rfl, hB⟩

set_option maxHeartbeats 1600000 in
set_option maxRecDepth 100000 in
theorem rsign_c (s : ByteArray) (w : World) : Calls Tryd.prog 26 #[.string s] w fun e w' => e = .returned (.string (bestOf s)) ∧ Below w.heap.size w w' := by
  have hsigns := rsigns_c w
  have hat : ∀ k, k < 22 → (w.alloc (.cells (siL.map Value.string).toArray 9)).cell? ⟨w.heap.size, k, none⟩ = some (.string (siL.getD k ⟨#[]⟩)) := fun k hk => by
    rw [World.cell?_alloc_new]
    have := siL_at hk
    simpa using this
  have hB : Below w.heap.size w (w.alloc (.cells (siL.map Value.string).toArray 9)) := (Below.refl _ _).alloc (Nat.le_refl _) _
  have hsz1 : w.heap.size < (w.alloc (.cells (siL.map Value.string).toArray 9)).heap.size := by simp
  generalize (w.alloc (.cells (siL.map Value.string).toArray 9)) = w1 at *
  have hstep := bestTo_succ s
  have hsm := bestTo_small s
  have hall : Hid (bestTo s 22 = bestOf s) := bestTo_all s
  have h0 : Hid (bestTo s 0 = ⟨#[]⟩) := (rfl : bestTo s 0 = ⟨#[]⟩)
  obtain ⟨X, hX⟩ : ∃ X, Hid (bestOf s = X) := ⟨_, (rfl : bestOf s = _)⟩
  rw [hX.out]
  go_enter Tryd.func26, Tryd.ntmps26
  go_wp2_with (go_at_call 41; refine hsigns.mono ?_; rintro e w' ⟨rfl, rfl⟩)
  go_loopw [4, 5] (fun best i wr => ∃ k : Nat, ∃ B : ByteArray, Hid (bestTo s k = B) ∧ B.size ≤ 3 ∧ k ≤ 22 ∧ i = .int .i64 k ∧ best = .string B ∧ Below w'.heap.size w' wr) (fun _ i _ => 22 - (intOf i).toNat)
  case atStart => exact ⟨0, _, h0, by show (0 : Nat) ≤ 3; decide, by omega, rfl, rfl, Below.refl _ _⟩
  case round =>
    obtain ⟨k, B, hb, hBs, hk, rfl, rfl, hnx⟩ := hrel
    by_cases hlt : k < 22
    · have hck : wr.cell? ⟨w.heap.size, k, none⟩ = some (.string (siL.getD k ⟨#[]⟩)) := (hnx.cell (by exact hsz1)).trans (hat k hlt)
      have hst := hstep k hlt
      have hz := siL_size hlt
      rw [hb.out] at hst
      have hst : Hid (bestTo s (k + 1) = bestStep s B (siL.getD k ⟨#[]⟩)) := hst
      clear hat hX hb hstep hsm hall h0 hsigns
      generalize siL.getD k ⟨#[]⟩ = P at *
      by_cases h1 : P.size ≤ s.size
      · by_cases h2 : s.extract 0 P.size = P
        · have hp := pref_yes h1 h2
          have heq : ((s.extract 0 P.size).toList == P.toList) = true := by rw [toList_beq]; exact decide_eq_true h2
          have hd1 : decide ((P.size : Int) ≤ (s.size : Int)) = true := by simp; omega
          clear h2
          by_cases hsz : B.size < P.size
          · have hn : Hid (bestTo s (k + 1) = P) := by
              show _ = _
              rw [hst.out]; unfold bestStep; rw [if_pos ⟨hsz, hp⟩]
            have hd2 : decide ((B.size : Int) < (P.size : Int)) = true := by simp; omega
            clear hst hp
            go_wp2
            go_quiet (fail)
            go_wp2
            go_roundw
            case rel => exact ⟨k + 1, P, hn, hz, by omega, by go_num, rfl, below_drewN hnx _⟩
            case measure => simp [intOf]; omega
          · have hn : Hid (bestTo s (k + 1) = B) := by
              show _ = _
              rw [hst.out]; unfold bestStep; rw [if_neg (fun h => hsz h.1)]
            have hd2 : decide ((B.size : Int) < (P.size : Int)) = false := by simp; omega
            clear hst hp
            go_wp2
            go_quiet (fail)
            go_wp2
            go_roundw
            case rel => exact ⟨k + 1, B, hn, hBs, by omega, by go_num, rfl, below_drewN hnx _⟩
            case measure => simp [intOf]; omega
        · have hp := pref_no2 h2
          have heq : ((s.extract 0 P.size).toList == P.toList) = false := by rw [toList_beq]; exact decide_eq_false h2
          have hn : Hid (bestTo s (k + 1) = B) := by
            show _ = _
            rw [hst.out]; unfold bestStep; rw [if_neg (by rw [hp]; simp)]
          have hd1 : decide ((P.size : Int) ≤ (s.size : Int)) = true := by simp; omega
          clear h2 hst hp
          go_wp2
          go_quiet (fail)
          go_wp2
          go_roundw
          case rel => exact ⟨k + 1, B, hn, hBs, by omega, by go_num, rfl, below_drewN hnx _⟩
          case measure => simp [intOf]; omega
      · have hp := pref_no1 h1
        have hn : Hid (bestTo s (k + 1) = B) := by
          show _ = _
          rw [hst.out]; unfold bestStep; rw [if_neg (by rw [hp]; simp)]
        have hd1 : decide ((P.size : Int) ≤ (s.size : Int)) = false := by simp; omega
        clear hst hp
        go_wp2
        go_quiet (fail)
        go_wp2
        go_roundw
        case rel => exact ⟨k + 1, B, hn, hBs, by omega, by go_num, rfl, below_drewN hnx _⟩
        case measure => simp [intOf]; omega
    · obtain rfl : k = 22 := by omega
      have e : Hid (B = X) := by show _ = _; rw [← hb.out, hall.out, hX.out]
      clear hX hb hat hstep hsm hall h0 hsigns
      go_wp2
      go_ret
      exact ⟨by rw [← e.out]; rfl, hB.trans (hnx.mono hB.size)⟩

theorem infoS : (Tryd.prog.info? 9).map (fun i => (i.zero, i.size)) = some (some (.string ⟨#[]⟩), 1) := by kernel_rfl
/-- So many signs laid. -/
def sigTo (k : Nat) : List Value := (List.range 22).map fun j => .string (if j < k then siL.getD j ⟨#[]⟩ else ⟨#[]⟩)
theorem sigTo_len (k : Nat) : (sigTo k).length = 22 := by simp [sigTo]
theorem sigTo_set (k : Nat) (hk : k < 22) : (sigTo k).set k (.string (siL.getD k ⟨#[]⟩)) = sigTo (k + 1) := by
  apply List.ext_getElem?
  intro j
  rw [List.getElem?_set, sigTo_len]
  by_cases hj : j < 22
  · simp only [sigTo, List.getElem?_map, List.getElem?_range hj, Option.map_some]
    by_cases h0 : k = j
    · subst h0; simp [hk]
    · rw [if_neg h0]
      by_cases h1 : j < k
      · simp [h1, show j < k + 1 by omega]
      · simp [h1, show ¬ j < k + 1 by omega]
  · rw [List.getElem?_eq_none (l := sigTo k) (by rw [sigTo_len]; omega), List.getElem?_eq_none (l := sigTo (k + 1)) (by rw [sigTo_len]; omega)]
    split
    · exfalso; omega
    · rfl
theorem sigTo_all : sigTo 22 = siL.map Value.string := by rfl
end Go.Proofs.YtddmdieeljjamaaDoor
