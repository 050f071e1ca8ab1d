/-
  BYTES THAT NEED ANOTHER ONE AHEAD. Mathematics alone.
-/
import Derived.Test.YtnecfgmbfkocnabDoorRead3
import Derived.Test.YtnecfgmbfkocnabDoorPrint
import Derived.Test.YtnecfgmbfkocnabDoorVGood3
namespace Go.Proofs.YtnecfgmbfkocnabDoor
theorem sp_cases {b : Int} (h : isSp b = true) : b = 39 ∨ b = 92 := by
  unfold isSp at h
  simpa using h
theorem sp_not {b : Int} (h : isSp b = false) : b ≠ 39 ∧ b ≠ 92 := by
  unfold isSp at h
  simpa using h
end Go.Proofs.YtnecfgmbfkocnabDoor
/-
  A VALUE PRINTED: the reference's functions, by contract.
-/
namespace Go.Proofs.YtnecfgmbfkocnabDoor
open Go.ChangeShapes Go.WideShapes Go.ChangeAt Go.RowKit

theorem tx_app (l m : List UInt8) : tx l ++ tx m = tx (l ++ m) := by
  apply ByteArray.ext
  simp [tx]
theorem dec_len : ∀ (k u : Nat), u < 10 ^ (k + 1) → (Lib.decDigits u).length ≤ k + 1
  | 0, u, h => by
    rw [Lib.decDigits, dif_pos (by simpa using h)]; simp
  | k + 1, u, h => by
    by_cases h0 : u < 10
    · rw [Lib.decDigits, dif_pos h0]; simp
    · rw [Lib.decDigits, dif_neg h0]
      have := dec_len k (u / 10) (by rw [Nat.pow_succ] at h; omega)
      simp; omega
theorem dec_len20 (u : Nat) (h : u < 18446744073709551616) : (Lib.decDigits u).length ≤ 20 := dec_len 19 u (by omega)
set_option maxHeartbeats 1600000 in
theorem rnum_c (u : Nat) (w : World) (hu : u < 18446744073709551616) : Calls Tryd.prog 32 #[.int .u64 (u : Int)] w fun e w' => e = .returned (.string (tx (Lib.decDigits u))) ∧ w' = w := by
  induction u using Nat.strongRecOn generalizing w with
  | _ u ih =>
    by_cases h : u < 10
    · have e : Lib.decDigits u = [UInt8.ofNat (48 + u)] := by rw [Lib.decDigits, dif_pos h]
      rw [e]
      have hc : u = 0 ∨ u = 1 ∨ u = 2 ∨ u = 3 ∨ u = 4 ∨ u = 5 ∨ u = 6 ∨ u = 7 ∨ u = 8 ∨ u = 9 := by omega
      clear ih e h hu
      rcases hc with rfl | rfl | rfl | rfl | rfl | rfl | rfl | rfl | rfl | rfl
      all_goals
        go_enter Tryd.func32, Tryd.ntmps32
        go_wp2
        go_ret
        exact ⟨rfl, rfl⟩
    · have e : Lib.decDigits u = Lib.decDigits (u / 10) ++ [UInt8.ofNat (48 + u % 10)] := by rw [Lib.decDigits, dif_neg h]
      have e2 : Lib.decDigits (u % 10) = [UInt8.ofNat (48 + u % 10)] := by rw [Lib.decDigits, dif_pos (by omega)]
      rw [e, ← e2]
      have h1 := fun w => ih (u / 10) (by omega) w (by omega)
      have h2 := fun w => ih (u % 10) (by omega) w (by omega)
      have l1 := dec_len20 (u / 10) (by omega)
      have l2 := dec_len20 (u % 10) (by omega)
      have hs : ¬ 9223372036854775807 < (tx (Lib.decDigits (u / 10))).size + (tx (Lib.decDigits (u % 10))).size := by rw [tx_size, tx_size]; omega
      have ha : Hid (tx (Lib.decDigits (u / 10)) ++ tx (Lib.decDigits (u % 10)) = tx (Lib.decDigits (u / 10) ++ Lib.decDigits (u % 10))) := tx_app _ _
      have q1 : (u : Int) / 10 = ((u / 10 : Nat) : Int) := by omega
      have q2 : (u : Int) % 10 = ((u % 10 : Nat) : Int) := by omega
      have hu1 : ¬ (u : Int) < 10 := by omega
      have hu2 : (u : Int) < 18446744073709551616 := by omega
      obtain ⟨Z, hZ⟩ : ∃ Z, Hid (Z = tx (Lib.decDigits (u / 10) ++ Lib.decDigits (u % 10))) := ⟨_, (rfl : _ = _)⟩
      rw [← hZ.out] at ha ⊢
      clear ih e e2 h l1 l2 hZ
      generalize tx (Lib.decDigits (u / 10)) = A at *
      generalize tx (Lib.decDigits (u % 10)) = B at *
      generalize u / 10 = x at *
      generalize u % 10 = y at *
      go_enter Tryd.func32, Tryd.ntmps32
      go_wp2_with fail
      refine (h1 _).mono ?_
      rintro e w' ⟨rfl, rfl⟩
      go_wp2_with fail
      refine (h2 _).mono ?_
      rintro e w' ⟨rfl, rfl⟩
      clear h1 h2
      go_wp2
      go_ret
      exact ⟨by rw [← ha.out]; rfl, rfl⟩
set_option maxHeartbeats 1600000 in
theorem rNum_c (n : Int) (w : World) (h1 : -1000000000000 ≤ n) (h2 : n ≤ 1000000000000) : Calls Tryd.prog 24 #[.int .i64 n] w fun e w' => e = .returned (.string (tx (Lib.itoa n))) ∧ w' = w := by
  unfold Lib.itoa
  by_cases hn : n < 0
  · rw [if_pos hn]
    obtain ⟨m, hm⟩ : ∃ m : Nat, n.natAbs = m + 1 := ⟨n.natAbs - 1, by omega⟩
    rw [hm]
    have hnum := fun w => rnum_c (m + 1) w (by omega)
    have l1 := dec_len20 (m + 1) (by omega)
    have hs : ¬ 9223372036854775807 < (⟨#[45]⟩ : ByteArray).size + (tx (Lib.decDigits (m + 1))).size := by
      have e : (⟨#[45]⟩ : ByteArray).size = 1 := rfl
      rw [tx_size, e]; omega
    have ha : Hid ((⟨#[45]⟩ : ByteArray) ++ tx (Lib.decDigits (m + 1)) = tx (45 :: Lib.decDigits (m + 1))) := tx_app [45] _
    have e1 : -(n + 1) = (m : Int) := by omega
    have e2 : wrap64 (n + 1) = n + 1 := IntWalk.wrap64_in _ (by omega)
    obtain ⟨Z, hZ⟩ : ∃ Z, Hid (Z = tx (45 :: Lib.decDigits (m + 1))) := ⟨_, (rfl : _ = _)⟩
    rw [← hZ.out] at ha ⊢
    have e3 : ((m + 1 : Nat) : Int) = (m : Int) + 1 := by omega
    rw [e3] at hnum
    clear hZ l1 hm e3
    generalize tx (Lib.decDigits (m + 1)) = B at *
    have hm1 : (m : Int) ≤ 1000000000000 := by omega
    go_enter Tryd.func24, Tryd.ntmps24
    go_wp2_with fail
    refine (hnum _).mono ?_
    rintro e w' ⟨rfl, rfl⟩
    clear hnum
    go_wp2
    go_ret
    exact ⟨by rw [← ha.out]; rfl, rfl⟩
  · rw [if_neg hn]
    obtain ⟨m, rfl⟩ := Int.eq_ofNat_of_zero_le (show 0 ≤ n by omega)
    rw [Int.toNat_natCast]
    have hnum := fun w => rnum_c m w (by omega)
    generalize tx (Lib.decDigits m) = B at *
    go_enter Tryd.func24, Tryd.ntmps24
    go_wp2_with fail
    refine (hnum _).mono ?_
    rintro e w' ⟨rfl, rfl⟩
    clear hnum
    go_wp2
    go_ret
    exact ⟨rfl, rfl⟩
set_option maxHeartbeats 1600000 in
theorem rprint_num (n : Int) (s : ByteArray) (w : World) (h1 : -1000000000000 ≤ n) (h2 : n ≤ 1000000000000) : Calls Tryd.prog 16 #[.agg #[.int .i64 1, .int .i64 n, .string s]] w fun e w' =>
    e = .returned (.string (tx (Lib.itoa n))) ∧ Below w.heap.size w w' := by
  have hnum := fun w => rNum_c n w h1 h2
  have hB := hid0 ((Below.refl w.heap.size w).alloc (Nat.le_refl _) (.cells #[.int .i64 1, .int .i64 n, .string s] 29))
  generalize tx (Lib.itoa n) = T at *
  go_enter Tryd.func16, Tryd.ntmps16
  go_wp2_with fail
  refine (hnum _).mono ?_
  rintro e w' ⟨rfl, rfl⟩
  clear hnum
  go_wp2
  go_ret
  exact ⟨rfl, hB.out⟩
theorem extract_one (s : ByteArray) (j : Nat) (h : j < s.size) : s.extract j (j + 1) = tx [ubyte s j] := by
  have hl : j < s.data.size := h
  have hl2 : j < s.data.toList.length := by simpa using hl
  have e : s.data.toList.drop j = ubyte s j :: s.data.toList.drop (j + 1) := by
    have e0 : ubyte s j = s.data.toList[j] := by
      unfold ubyte
      rw [List.getD_eq_getElem?_getD, List.getElem?_eq_getElem hl2]
      rfl
    rw [e0]
    exact List.drop_eq_getElem_cons hl2
  apply ByteArray.ext
  apply Array.ext'
  rw [ByteArray.data_extract, Array.toList_extract, List.extract_eq_take_drop, e]
  have : j + 1 - j = 1 := by omega
  rw [this]
  rfl
set_option maxHeartbeats 3200000 in
theorem rprint_text (n : Int) (s : ByteArray) (w : World) (hs : s.size ≤ 1000) : Calls Tryd.prog 16 #[.agg #[.int .i64 2, .int .i64 n, .string s]] w fun e w' =>
    e = .returned (.string (tx (39 :: (escL s.data.toList ++ [39])))) ∧ Below w.heap.size w w' := by
  have hB := hid0 ((Below.refl w.heap.size w).alloc (Nat.le_refl _) (.cells #[.int .i64 2, .int .i64 n, .string s] 29))
  have hstep := hid0 (fun j h => outL_step s j h)
  have hend := hid0 (outL_end s)
  have hol := hid0 (fun j => outL_len s.data.toList j)
  rw [← hend.out]
  obtain ⟨oL, hoL⟩ : ∃ oL : Nat → List UInt8, Hid (oL = outL s.data.toList) := ⟨_, (rfl : _ = _)⟩
  rw [← hoL.out] at hstep hol ⊢
  have h00 : Hid (oL 0 = [39]) := by show _ = _; rw [hoL.out]; rfl
  clear hoL hend
  go_enter Tryd.func16, Tryd.ntmps16
  go_wp2_with fail
  go_loop [3, 4] (fun x i => ∃ (j : Nat) (T : ByteArray), x = .string T ∧ i = .int .i64 (j : Int) ∧ j ≤ s.size ∧ Hid (T = tx (oL j))) (fun _ i => s.size - (intOf i).toNat)
  case atStart => exact ⟨0, ⟨#[39]⟩, rfl, rfl, Nat.zero_le _, (by show _ = _; rw [h00.out]; rfl)⟩
  case round =>
    clear h00
    obtain ⟨j, T, rfl, rfl, hj, hT⟩ := hrel
    have hTs : Hid (T.size ≤ 2001) := by show _ ≤ _; rw [hT.out, tx_size]; have := hol.out j; omega
    by_cases hlt : j < s.size
    · have hj1 : (j : Int) < (s.size : Int) := by omega
      have hbj := byteAt_eq (s := s) (k := j) hlt
      have hst := hid0 (hstep.out j hlt)
      have hex := extract_one s j hlt
      have hu1 : Hid ((tx [ubyte s j]).size = 1) := by show _ = _; rw [tx_size]; rfl
      have hj2 : (j : Int) + 1 ≤ (s.size : Int) := by omega
      have ht1 : ((j : Int) + 1).toNat = j + 1 := by omega
      generalize hU : tx [ubyte s j] = U at *
      replace hU := hid0 hU
      generalize byteAt s j = b at *
      cases hd : isSp b with
      | false =>
        rw [hd] at hst
        have hnext : Hid (T ++ U = tx (oL (j + 1))) := by
          have e : oL (j + 1) = oL j ++ [ubyte s j] := hst.out
          show _ = _
          rw [e, hT.out, ← hU.out, tx_app]
        obtain ⟨m1, m2⟩ := sp_not hd
        have k1 : (b == 39) = false := by simp [m1]
        have k2 : (b == 92) = false := by simp [m2]
        have hsum : ¬ 9223372036854775807 < T.size + U.size := by have := hTs.out; rw [hu1.out]; omega
        clear hst hd m1 m2
        go_wp2
        go_round
        case rel => exact ⟨j + 1, _, rfl, by go_num, by omega, hnext⟩
        case measure => simp [intOf]; omega
      | true =>
        rw [hd] at hst
        have hnext : Hid (T ++ ⟨#[92]⟩ ++ U = tx (oL (j + 1))) := by
          have e : oL (j + 1) = oL j ++ [92] ++ [ubyte s j] := by rw [List.append_assoc]; exact hst.out
          have e9 : (⟨#[92]⟩ : ByteArray) = tx [92] := rfl
          show _ = _
          rw [e, hT.out, ← hU.out, e9, tx_app, tx_app]
        have h92 : (⟨#[92]⟩ : ByteArray).size = 1 := rfl
        have hsum : ¬ 9223372036854775807 < T.size + (⟨#[92]⟩ : ByteArray).size := by have := hTs.out; rw [h92]; omega
        have hsum2 : ¬ 9223372036854775807 < (T ++ ⟨#[92]⟩).size + U.size := by have := hTs.out; rw [hu1.out, ByteArray.size_append, h92]; omega
        replace h92 := hid0 h92
        rcases sp_cases hd with h | h
        · have k1 : (b == 39) = true := by simp [h]
          replace h := hid0 h
          clear hst hd
          go_wp2
          go_round
          case rel => exact ⟨j + 1, _, rfl, by go_num, by omega, hnext⟩
          case measure => simp [intOf]; omega
        · have k1 : (b == 39) = false := by simp [h]
          have k2 : (b == 92) = true := by simp [h]
          replace h := hid0 h
          clear hst hd
          go_wp2
          go_round
          case rel => exact ⟨j + 1, _, rfl, by go_num, by omega, hnext⟩
          case measure => simp [intOf]; omega
    · have hj1 : ¬ (j : Int) < (s.size : Int) := by omega
      obtain rfl : j = s.size := by omega
      have hfin : Hid (T ++ ⟨#[39]⟩ = tx (oL s.size ++ [39])) := by
        have e9 : (⟨#[39]⟩ : ByteArray) = tx [39] := rfl
        show _ = _
        rw [hT.out, e9, tx_app]
      have h39 : (⟨#[39]⟩ : ByteArray).size = 1 := rfl
      have hsum : ¬ 9223372036854775807 < T.size + (⟨#[39]⟩ : ByteArray).size := by have := hTs.out; rw [h39]; omega
      replace h39 := hid0 h39
      clear hstep hol
      go_wp2
      go_ret
      exact ⟨by rw [← hfin.out]; rfl, hB.out⟩
end Go.Proofs.YtnecfgmbfkocnabDoor
