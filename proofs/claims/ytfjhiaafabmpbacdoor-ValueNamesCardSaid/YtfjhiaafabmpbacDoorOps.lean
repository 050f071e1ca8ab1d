/-
  SIGNS WITH WHICH TEXTS BEGIN: the program's and the reference's, by contract.
-/
import Derived.Test.YtfjhiaafabmpbacDoorChars
import Derived.Test.YtfjhiaafabmpbacDoorRows1
namespace Go.Proofs.YtfjhiaafabmpbacDoor
open Go.ChangeShapes Go.WideShapes Go.ChangeAt Go.RowKit

theorem toList_beq (a b : ByteArray) : (a.toList == b.toList) = decide (a = b) := by
  rw [Go.ByteArray.toList_eq, Go.ByteArray.toList_eq]
  by_cases h : a = b
  · subst h; simp
  · rw [decide_eq_false h, beq_eq_false_iff_ne]
    intro e
    exact h (ByteArray.ext (Array.ext' e))
def pref (s t : ByteArray) : Bool := decide (t.size ≤ s.size) && decide (s.extract 0 t.size = t)
set_option maxHeartbeats 800000 in
theorem lprefix_c (s t : ByteArray) (w : World) : Calls Tryd.prog 17 #[.string s, .string t] w fun e w' => e = .returned (.bool (pref s t)) ∧ w' = w := by
  by_cases h1 : t.size ≤ s.size
  · by_cases h2 : s.extract 0 t.size = t
    · have e : Hid (pref s t = true) := by show _ = _; unfold pref; simp [h1, h2]
      rw [e.out]
      go_enter Tryd.func17, Tryd.ntmps17
      go_wp2
      go_ret
      exact ⟨rfl, rfl⟩
    · have e : Hid (pref s t = false) := by show _ = _; unfold pref; simp [h2]
      rw [e.out]
      have hne : ((s.extract 0 t.size).toList == t.toList) = false := by rw [toList_beq]; exact decide_eq_false h2
      go_enter Tryd.func17, Tryd.ntmps17
      go_wp2
      go_ret
      exact ⟨rfl, rfl⟩
  · have e : Hid (pref s t = false) := by show _ = _; unfold pref; simp [h1]
    rw [e.out]
    go_enter Tryd.func17, Tryd.ntmps17
    go_wp2
    go_ret
    exact ⟨rfl, rfl⟩
theorem prefix_c (s t : ByteArray) (w : World) : Calls Tryd.prog 10 #[.string s, .string t] w fun e w' => e = .returned (.bool (pref s t)) ∧ w' = w := by
  have h := fun w => lprefix_c s t w
  go_enter Tryd.func10, Tryd.ntmps10
  go_wp2_with (go_at_call 17; refine (h _).mono ?_; rintro e w' ⟨rfl, rfl⟩)
  go_ret
  exact ⟨rfl, rfl⟩

/-- The signs, by code. -/
def sgn : Nat → ByteArray
  | 1 => ⟨#[61]⟩
  | 2 => ⟨#[60, 62]⟩
  | 3 => ⟨#[60]⟩
  | 4 => ⟨#[60, 61]⟩
  | 5 => ⟨#[62]⟩
  | 6 => ⟨#[62, 61]⟩
  | _ => ⟨#[]⟩
theorem sgn_size : ∀ k, (sgn k).size ≤ 2
  | 0 => by decide
  | 1 => by decide
  | 2 => by decide
  | 3 => by decide
  | 4 => by decide
  | 5 => by decide
  | 6 => by decide
  | _ + 7 => by show (0 : Nat) ≤ 2; decide
def bst (s : ByteArray) : Nat → Nat
  | 0 => 0
  | k + 1 => if (pref s (sgn (k + 1)) && decide ((sgn (bst s k)).size < (sgn (k + 1)).size)) = true then k + 1 else bst s k
theorem bst_le (s : ByteArray) : ∀ k, bst s k ≤ k
  | 0 => Nat.le_refl _
  | k + 1 => by
    have := bst_le s k
    unfold bst
    split <;> omega
theorem bst_yes {s : ByteArray} {k : Nat} (h1 : pref s (sgn (k + 1)) = true) (h2 : (sgn (bst s k)).size < (sgn (k + 1)).size) : bst s (k + 1) = k + 1 := by
  rw [bst, if_pos (by simp [h1, h2])]
theorem bst_no {s : ByteArray} {k : Nat} (h : pref s (sgn (k + 1)) = true → ¬ (sgn (bst s k)).size < (sgn (k + 1)).size) : bst s (k + 1) = bst s k := by
  rw [bst, if_neg]
  intro hh
  simp only [Bool.and_eq_true, decide_eq_true_eq] at hh
  exact h hh.1 hh.2

set_option maxHeartbeats 1600000 in
set_option maxRecDepth 100000 in
theorem op_c (s : ByteArray) (w : World) (hg : 0 < w.heap.size) (hsig : ∀ k, k ≤ 6 → w.cell? ⟨0, k, none⟩ = some (.string (sgn k))) :
    Calls Tryd.prog 5 #[.string s] w fun e w' => e = .returned (.tuple #[.int .i64 (bst s 6 : Nat), .int .i64 ((sgn (bst s 6)).size : Nat)]) ∧ Below w.heap.size w w' := by
  have hpre := fun (t : ByteArray) (w : World) => prefix_c s t w
  obtain ⟨X, hX⟩ : ∃ X, Hid (bst s 6 = X) := ⟨_, (rfl : bst s 6 = _)⟩
  rw [hX.out]
  go_enter Tryd.func5, Tryd.ntmps5
  go_wp2
  go_loopw [4, 5] (fun best op wr => ∃ k b : Nat, Hid (b = bst s k) ∧ b ≤ k ∧ k ≤ 6 ∧ op = .int .i64 ((k : Int) + 1) ∧ best = .int .i64 b ∧ Below w.heap.size w wr)
    (fun _ op _ => 7 - (intOf op).toNat)
  case atStart => exact ⟨0, 0, rfl, Nat.le_refl _, by omega, rfl, rfl, Below.refl _ _⟩
  case round =>
    obtain ⟨k, b, hb, hbk, hk, rfl, rfl, hnx⟩ := hrel
    have hcb : wr.cell? ⟨0, b, none⟩ = some (.string (sgn b)) := (hnx.cell (by exact hg)).trans (hsig b (by omega))
    by_cases hlt : k < 6
    · have hck : wr.cell? ⟨0, k + 1, none⟩ = some (.string (sgn (k + 1))) := (hnx.cell (by exact hg)).trans (hsig (k + 1) (by omega))
      have hcall := hpre (sgn (k + 1))
      have hyes := bst_yes (s := s) (k := k)
      have hno := bst_no (s := s) (k := k)
      have hz1 := sgn_size (k + 1)
      have hz2 := sgn_size b
      rw [← hb.out] at hyes hno
      clear hpre hsig hX hb
      generalize sgn (k + 1) = P at *
      generalize sgn b = B at *
      cases hp : pref s P with
      | false =>
        have hn : Hid (b = bst s (k + 1)) := (hno fun h => by rw [hp] at h; cases h).symm
        rw [hp] at hcall
        clear hyes hno hp
        go_wp2
        go_quiet (refine Calls.quiet_of_same (hcall _))
        go_wp2
        go_roundw
        case rel => exact ⟨k + 1, b, hn, by omega, by omega, by go_num, rfl, below_drewN hnx _⟩
        case measure => simp [intOf]; omega
      | true =>
        rw [hp] at hcall
        by_cases hsz : B.size < P.size
        · have hn : Hid (k + 1 = bst s (k + 1)) := (hyes hp hsz).symm
          have hd : decide ((B.size : Int) < (P.size : Int)) = true := by simp; omega
          clear hyes hno hp
          go_wp2
          go_quiet (refine Calls.quiet_of_same (hcall _))
          go_wp2
          go_roundw
          case rel => exact ⟨k + 1, k + 1, hn, by omega, by omega, by go_num, by first | rfl | go_num, below_drewN hnx _⟩
          case measure => simp [intOf]; omega
        · have hn : Hid (b = bst s (k + 1)) := (hno fun _ => hsz).symm
          have hd : decide ((B.size : Int) < (P.size : Int)) = false := by simp; omega
          clear hyes hno hp
          go_wp2
          go_quiet (refine Calls.quiet_of_same (hcall _))
          go_wp2
          go_roundw
          case rel => exact ⟨k + 1, b, hn, by omega, by omega, by go_num, rfl, below_drewN hnx _⟩
          case measure => simp [intOf]; omega
    · obtain rfl : k = 6 := by omega
      have e : Hid (X = b) := by show _ = _; rw [← hX.out, hb.out]
      clear hX hb hsig hpre
      have hz2 := sgn_size b
      obtain ⟨Z, hZ⟩ : ∃ Z, Hid ((sgn X).size = Z) := ⟨_, (rfl : (sgn X).size = _)⟩
      generalize hB : sgn b = B at *
      go_wp2
      go_quiet (fail)
      go_wp2
      go_ret2
      exact ⟨by rw [e.out, hB]; rfl, below_drewN hnx _⟩

theorem sgn_at (k : Nat) (hk : k < 6) : ([Value.string ⟨#[61]⟩, .string ⟨#[60, 62]⟩, .string ⟨#[60]⟩, .string ⟨#[60, 61]⟩, .string ⟨#[62]⟩, .string ⟨#[62, 61]⟩] : List Value)[k]? = some (.string (sgn (k + 1))) := by
  rcases k with _ | _ | _ | _ | _ | _ | k <;> first | rfl | omega
set_option maxHeartbeats 800000 in
theorem rsign_c (k : Nat) (w : World) (h1 : k < 6) : Calls Tryd.prog 11 #[.int .i64 ((k : Int) + 1)] w fun e w' => e = .returned (.string (sgn (k + 1))) ∧ Below w.heap.size w w' := by
  go_enter Tryd.func11, Tryd.ntmps11
  go_wp2
  go_ret
  have h := sgn_at k h1
  rw [List.getElem?_eq_getElem (by simpa using h1)] at h
  exact ⟨congrArg Ending.returned (Option.some.inj h), (Below.refl _ _).alloc (Nat.le_refl _) _⟩
theorem pref_no1 {s t : ByteArray} (h : ¬ t.size ≤ s.size) : pref s t = false := by unfold pref; simp [h]
theorem pref_no2 {s t : ByteArray} (h : ¬ s.extract 0 t.size = t) : pref s t = false := by unfold pref; simp [h]
theorem pref_yes {s t : ByteArray} (h : t.size ≤ s.size) (h2 : s.extract 0 t.size = t) : pref s t = true := by unfold pref; simp [h, h2]

set_option maxHeartbeats 1600000 in
set_option maxRecDepth 100000 in
theorem rop_c (s : ByteArray) (w : World) :
    Calls Tryd.prog 6 #[.string s] w fun e w' => e = .returned (.tuple #[.int .i64 (bst s 6 : Nat), .int .i64 ((sgn (bst s 6)).size : Nat)]) ∧ Below w.heap.size w w' := by
  have hsign := fun (k : Nat) (h : k < 6) (w : World) => rsign_c k w h
  obtain ⟨X, hX⟩ : ∃ X, Hid (bst s 6 = X) := ⟨_, (rfl : bst s 6 = _)⟩
  rw [hX.out]
  go_enter Tryd.func6, Tryd.ntmps6
  go_wp2
  go_loopw [4, 5, 6] (fun best n op wr => ∃ k b z : Nat, Hid (b = bst s k) ∧ Hid (z = (sgn b).size) ∧ z ≤ 2 ∧ k ≤ 6 ∧ op = .int .i64 ((k : Int) + 1) ∧ best = .int .i64 b ∧ n = .int .i64 z ∧ Below w.heap.size w wr)
    (fun _ _ op _ => 7 - (intOf op).toNat)
  case atStart => exact ⟨0, 0, 0, rfl, rfl, by omega, by omega, rfl, rfl, rfl, Below.refl _ _⟩
  case round =>
    obtain ⟨k, b, z, hb, hz, hz2, hk, rfl, rfl, rfl, hnx⟩ := hrel
    by_cases hlt : k < 6
    · have hcall := hsign k hlt
      have hyes := bst_yes (s := s) (k := k)
      have hno := bst_no (s := s) (k := k)
      have hz1 := sgn_size (k + 1)
      rw [← hb.out, ← hz.out] at hyes hno
      have hgo : Hid (∀ b', b' = k + 1 → (sgn (k + 1)).size = (sgn b').size) := fun b' e => by rw [e]
      have hbz : Hid (z = (sgn b).size) := hz
      clear hsign hX hb hz
      generalize hP : sgn (k + 1) = P at *
      have hP2 : Hid (P.size = (sgn (k + 1)).size) := by show _ = _; rw [hP]
      clear hP hgo
      by_cases h1 : P.size ≤ s.size
      · by_cases h2 : s.extract 0 P.size = P
        · have hp := pref_yes h1 h2
          have heq : ((s.extract 0 P.size).toList == P.toList) = true := by rw [toList_beq]; exact decide_eq_true h2
          clear h2
          by_cases hsz : z < P.size
          · have hn : Hid (k + 1 = bst s (k + 1)) := (hyes hp hsz).symm
            clear hyes hno hp
            go_wp2_with (go_at_call 11; refine (hcall _).mono ?_; rintro e w' ⟨rfl, hB⟩; have hnx2 := hnx.trans (hB.mono hnx.size))
            go_roundw
            case rel => exact ⟨k + 1, k + 1, P.size, hn, hP2, hz1, by omega, by go_num, by first | rfl | go_num, rfl, hnx2⟩
            case measure => simp [intOf]; omega
          · have hn : Hid (b = bst s (k + 1)) := (hno fun _ => hsz).symm
            clear hyes hno hp
            go_wp2_with (go_at_call 11; refine (hcall _).mono ?_; rintro e w' ⟨rfl, hB⟩; have hnx2 := hnx.trans (hB.mono hnx.size))
            go_roundw
            case rel => exact ⟨k + 1, b, z, hn, hbz, hz2, by omega, by go_num, rfl, rfl, hnx2⟩
            case measure => simp [intOf]; omega
        · have hp := pref_no2 h2
          have heq : ((s.extract 0 P.size).toList == P.toList) = false := by rw [toList_beq]; exact decide_eq_false h2
          have hn : Hid (b = bst s (k + 1)) := (hno fun h => by rw [hp] at h; cases h).symm
          clear h2 hyes hno hp
          go_wp2_with (go_at_call 11; refine (hcall _).mono ?_; rintro e w' ⟨rfl, hB⟩; have hnx2 := hnx.trans (hB.mono hnx.size))
          go_roundw
          case rel => exact ⟨k + 1, b, z, hn, hbz, hz2, by omega, by go_num, rfl, rfl, hnx2⟩
          case measure => simp [intOf]; omega
      · have hp := pref_no1 h1
        have hn : Hid (b = bst s (k + 1)) := (hno fun h => by rw [hp] at h; cases h).symm
        clear hyes hno hp
        go_wp2_with (go_at_call 11; refine (hcall _).mono ?_; rintro e w' ⟨rfl, hB⟩; have hnx2 := hnx.trans (hB.mono hnx.size))
        go_roundw
        case rel => exact ⟨k + 1, b, z, hn, hbz, hz2, by omega, by go_num, rfl, rfl, hnx2⟩
        case measure => simp [intOf]; omega
    · obtain rfl : k = 6 := by omega
      have e : Hid (X = b) := by show _ = _; rw [← hX.out, hb.out]
      clear hX hb hsign
      go_wp2
      go_ret2
      exact ⟨by rw [e.out, ← hz.out]; rfl, hnx⟩
end Go.Proofs.YtfjhiaafabmpbacDoor
