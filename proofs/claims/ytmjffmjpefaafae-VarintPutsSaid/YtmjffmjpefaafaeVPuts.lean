/-
  ALL NUMBERS' BYTES; how many each has; and that they are got again: by contract.
-/
import Derived.Test.YtmjffmjpefaafaeVCut
import Derived.Test.YtmjffmjpefaafaeVBounds
import Derived.Test.YtmjffmjpefaafaeFewU
import Derived.Test.YtmjffmjpefaafaeSameU
import Derived.Test.YtmjffmjpefaafaeShelf
import Derived.Lib.BitFns
namespace Go.Proofs.Ytmjffmjpefaafae
open Go.ChangeShapes Go.WideShapes Go.ChangeAt Go.RowKit

def u64v (u : Nat) : Value := .int .u64 (u : Int)
theorem bts_len (us : List Nat) : (bts us).length ≤ 11 * us.length := by
  induction us with
  | nil => simp [bts]
  | cons u us ih =>
    have h := putF_len 11 u
    have e : (bts (u :: us)).length = (put u).length + (bts us).length := by simp [bts]
    rw [e, List.length_cons]
    have : (put u).length ≤ 11 := h
    omega
theorem bts_split (us : List Nat) (j : Nat) (hj : j < us.length) : bts us = bts (us.take j) ++ (put (us.getD j 0) ++ bts (us.drop (j + 1))) := by
  have e : us = us.take j ++ us.getD j 0 :: us.drop (j + 1) := by
    have : us.getD j 0 = us[j] := by simp [List.getD, hj]
    rw [this, List.getElem_cons_drop hj, List.take_append_drop]
  conv => lhs; rw [e]
  simp [bts]

set_option maxHeartbeats 1600000 in
set_option maxRecDepth 1000000 in
theorem putAll_c (v : Value) (us : List Nat) (w : World) (hv : Holds w v (us.map u64v)) (hz : us.length ≤ 1000) (hus : ∀ u ∈ us, u < 18446744073709551616) :
    Calls Try.prog 7 #[v] w fun e w' => e = .returned (.string (bytesOf (bts us))) ∧ Below w.heap.size w w' := by
  obtain ⟨a, cap, rfl, hrow⟩ := hv
  rw [List.length_map]
  go_enter Try.func7, Try.ntmps7
  go_wp2
  go_loopw [3, 4] (fun b i wr => ∃ j : Nat, j ≤ us.length ∧ i = .int .i64 j ∧ b = .string (bytesOf (bts (us.take j))) ∧ Below w.heap.size w wr)
    (fun _ i _ => us.length - (intOf i).toNat)
  case atStart => exact ⟨0, Nat.zero_le _, rfl, rfl, Below.refl _ _⟩
  case round =>
    obtain ⟨j, hj, rfl, rfl, hnx⟩ := hrel
    by_cases hlt : j < us.length
    · rcases hrow with h0 | ⟨b, off, rfl, hb, hc⟩
      · simp only [List.map_eq_nil_iff] at h0; subst h0; simp at hlt
      have hcx : wr.cell? ⟨b, off + j, none⟩ = some (.int .u64 ((us.getD j 0 : Nat) : Int)) := (hnx.cell (by exact hb)).trans (hc j _ (by simp [hlt, u64v]))
      have hu := hus (us.getD j 0) (by simp [List.getD, hlt])
      have htk : us.take (j + 1) = us.take j ++ [us.getD j 0] := by rw [List.take_add_one, List.getElem?_eq_getElem hlt]; simp [List.getD, hlt]
      have hT : bytesOf (bts (us.take j)) ++ bytesOf (put (us.getD j 0)) = bytesOf (bts (us.take (j + 1))) := by rw [bytesOf_append, htk, bts_snoc]
      have hl1 := bts_len (us.take j)
      rw [List.length_take] at hl1
      have hl2 : (put (us.getD j 0)).length ≤ 11 := putF_len 11 _
      rw [← bytesOf_size] at hl1 hl2
      have hrp : ∀ w, Calls Try.prog 9 #[.int .u64 ((us.getD j 0 : Nat) : Int)] w fun e w' => e = .returned (.string (bytesOf (put (us.getD j 0)))) ∧ Below w.heap.size w w' :=
        fun w => rput_c 10 _ w (by omega) (Nat.lt_of_lt_of_le hu (by decide)) hu
      have hs2 : ¬ (9223372036854775807 < (bytesOf (bts (us.take j))).size + (bytesOf (put (us.getD j 0))).size) := by omega
      clear hc htk hl1 hl2
      generalize us.getD j 0 = u at *
      generalize bytesOf (bts (us.take j)) = A at *
      generalize bytesOf (put u) = B at *
      go_wp2_with (go_at_call 9; refine (hrp _).mono ?_; rintro e w' ⟨rfl, hB⟩)
      go_roundw
      case rel => exact ⟨j + 1, by omega, by go_num, by first | rfl | rw [hT], hnx.trans (hB.mono hnx.size)⟩
      case measure => simp [intOf]; omega
    · obtain rfl : j = us.length := by omega
      rw [List.take_length]
      go_wp2
      go_ret
      exact ⟨rfl, hnx⟩

theorem len_put : ∀ (f u : Nat), u < 128 ^ (f + 1) → u < 18446744073709551616 → ((putF (f + 1) u).length : Int) = 1 + max 0 ((Lib.bitLen u : Int) - 1) / 7
  | f, u, h, hu => by
    by_cases hs : u < 128
    · have h7 := Lib.bitLen_le u 7 (by decide) hs
      have e : putF (f + 1) u = [UInt8.ofNat u] := by simp [putF, hs]
      rw [e]
      simp only [List.length_singleton]
      omega
    · obtain ⟨f, rfl⟩ : ∃ g, f = g + 1 := by
        cases f with
        | zero => simp at h; omega
        | succ g => exact ⟨g, rfl⟩
      have ih := len_put f (u / 128) (by rw [Nat.div_lt_iff_lt_mul (by decide)]; rwa [Nat.pow_succ] at h) (by omega)
      have hsh := Lib.bitLen_shift 7 u (by omega) hu
      have e27 : (2 : Nat) ^ 7 = 128 := by decide
      rw [e27] at hsh
      have hone : 1 ≤ Lib.bitLen (u / 128) := by
        have := Lib.bitLen_half (u / 128) (by omega) (by omega)
        omega
      have e : putF (f + 1 + 1) u = UInt8.ofNat (128 + u % 128) :: putF (f + 1) (u / 128) := by rw [putF, if_neg hs]
      rw [e, List.length_cons]
      push_cast
      rw [ih, hsh]
      push_cast
      omega
set_option maxHeartbeats 800000 in
theorem size_c (u : Nat) (w : World) (hu : u < 18446744073709551616) :
    Calls Try.prog 8 #[.int .u64 (u : Int)] w fun e w' => e = .returned (.int .i64 ((put u).length : Nat)) ∧ w' = w := by
  have hl := len_put 10 u (Nat.lt_of_lt_of_le hu (by decide)) hu
  have hb := Lib.bitLen_le u 64 (by decide) hu
  have hlen := fun w => Try.bits_Len64 (u : Int) w (by omega) (by omega)
  rw [show ((u : Int)).toNat = u by omega] at hlen
  have hl : ((put u).length : Int) = 1 + max 0 ((Lib.bitLen u : Int) - 1) / 7 := hl
  generalize Lib.bitLen u = B at *
  rw [hl]
  by_cases h0 : B = 0
  · subst h0
    go_enter Try.func8, Try.ntmps8
    go_wp2_with (first | (go_at_call 15; refine (hlen _).mono ?_; rintro e w' ⟨rfl, rfl⟩) | go_in)
    go_ret
    exact ⟨rfl, rfl⟩
  · go_enter Try.func8, Try.ntmps8
    go_wp2_with (first | (go_at_call 15; refine (hlen _).mono ?_; rintro e w' ⟨rfl, rfl⟩) | go_in)
    all_goals go_ret
    all_goals exact ⟨ret_int (by first | rfl | omega), rfl⟩

theorem take_snocN (us : List Nat) (j : Nat) (hj : j < us.length) : us.take (j + 1) = us.take j ++ [us.getD j 0] := by
  rw [List.take_add_one, List.getElem?_eq_getElem hj]; simp [List.getD, hj]
theorem drop_bts (us : List Nat) (rest : List UInt8) (j : Nat) (hj : j < us.length) : (bts us ++ rest).drop (bts (us.take j)).length = put (us.getD j 0) ++ (bts (us.drop (j + 1)) ++ rest) := by
  rw [bts_split us j hj, List.append_assoc, List.append_assoc, List.drop_left']
  rfl
theorem extract_from (l : List UInt8) (n : Nat) : (bytesOf l).extract n (bytesOf l).size = bytesOf (l.drop n) := by
  apply ByteArray.ext
  apply Array.ext'
  rw [ByteArray.data_extract, Array.toList_extract]
  simp only [bytesOf, List.extract]
  rw [show (ByteArray.mk l.toArray).size = l.length from by simp [ByteArray.size]]
  rw [List.take_of_length_le (by simp)]

set_option maxHeartbeats 1600000 in
set_option maxRecDepth 1000000 in
theorem list_c (us : List Nat) (rest : List UInt8) (w : World) (hz : us.length ≤ 1000) (hus : ∀ u ∈ us, u < 18446744073709551616) (hr : rest.length ≤ 100000) :
    Calls Try.prog 10 #[.string (bytesOf (bts us ++ rest)), .int .i64 us.length] w fun e w' => ∃ v', e = .returned (.tuple #[v', .int .i64 ((bts us).length : Nat), .int .i64 0]) ∧
      w'.ownsRow w.heap.size 28 1 v' us.length (us.map u64v) ∧ Below w.heap.size w w' := by
  have hlen := bts_len us
  have hS := bytesOf_size (bts us ++ rest)
  rw [List.length_append] at hS
  have hext := extract_from (bts us ++ rest)
  have hdrop := drop_bts us rest
  have hSb : (bytesOf (bts us ++ rest)).size ≤ 200000 := by omega
  generalize bytesOf (bts us ++ rest) = S at *
  obtain ⟨i0, hi, hz0, hz1, hz2⟩ := info_parts infoU
  go_enter Try.func10, Try.ntmps10
  have hSH : Hid (S.size = (bts us).length + rest.length) := hS
  clear hS
  go_wp2
  go_loopw [7, 8] (fun l at0 wr => ∃ j : Nat, j ≤ us.length ∧ at0 = .int .i64 ((bts (us.take j)).length : Nat) ∧ wr.ownsRow w.heap.size 28 1 l j ((us.take j).map u64v) ∧ Hid ((bts (us.take j)).length ≤ 11 * j) ∧ Below w.heap.size w wr)
    (fun l _ _ => us.length - (match l with | .slice _ n _ => n | _ => 0))
  case atStart => exact ⟨0, Nat.zero_le _, rfl, World.ownsRow_nil _ _ _ _, Nat.le_refl _, Below.refl _ _⟩
  case round =>
    obtain ⟨j, hj, rfl, hown, hbl, hnx⟩ := hrel
    obtain ⟨a, c2, rfl⟩ : ∃ a c2, u7 = .slice a j c2 := by
      rcases hown.2 with ⟨h1, h2⟩ | ⟨g, c2, cur, h1, _⟩
      · exact ⟨none, 0, by rw [h1, h2]⟩
      · exact ⟨_, c2, h1⟩
    by_cases hlt : j < us.length
    · have hu := hus (us.getD j 0) (by simp [List.getD, hlt])
      have hd := hdrop j hlt
      have hx := hext (bts (us.take j)).length
      rw [hd] at hx
      have htk := take_snocN us j hlt
      have hT : Hid ((bts (us.take (j + 1))).length = (bts (us.take j)).length + (put (us.getD j 0)).length) := by show _ = _; rw [htk, bts_snoc, List.length_append]
      have hTk : Hid ((us.take (j + 1)).map u64v = (us.take j).map u64v ++ [u64v (us.getD j 0)]) := by show _ = _; rw [htk, List.map_append]; rfl
      have hp11 : (put (us.getD j 0)).length ≤ 11 := putF_len 11 _
      have hle : (bts (us.take j)).length ≤ S.size := by
        have e := congrArg List.length (bts_split us j hlt)
        rw [List.length_append] at e
        have := hSH.out
        omega
      have hgz : ((bytesOf (put (us.getD j 0) ++ (bts (us.drop (j + 1)) ++ rest))).size : Int) ≤ 200000 := by
        rw [← hx]; simp; omega
      have hget := fun w => get_c (bytesOf (put (us.getD j 0) ++ (bts (us.drop (j + 1)) ++ rest))) w (by omega)
      rw [bytesOf_list, get_put _ hu] at hget
      have hbl2 := hbl.out
      clear hext hdrop hd htk hgz hus hlen
      generalize bytesOf (put (us.getD j 0) ++ (bts (us.drop (j + 1)) ++ rest)) = D at *
      generalize us.getD j 0 = u at *
      generalize (put u).length = pl at *
      generalize hA : (bts (us.take j)).length = A at *
      clear hA
      unfold tupR at hget
      simp only at hget
      have hsz := hnx.size
      go_wp2_with (first
        | (go_at_call 14; refine (hget _).mono ?_; rintro e w' ⟨rfl, rfl⟩)
        | (at_builtin; refine wpList_append_own _ rfl _ _ 22 rfl w.heap.size 28 i0 (.int .u64 0) 1 8 Try.underlying22 hi hz0 hz1 hz2 rfl (by decide) _ _ _ rfl (hown.alloc _) ⟨w'.heap.size, 0, none⟩ 1 1 [.int .u64 (u : Int)] rfl rfl (cell_one_new _ _ _) ?c2 ?c3 ?c4 ?c5 ?_))
      case c2 => intro x hx; simp at hx; subst hx; rfl
      case c3 => unfold maxLen; omega
      case c4 => omega
      case c5 => simp; omega
      · intro v' w1 hown' hgrow _
        have hB : Below w.heap.size w w1 := (hnx.alloc (by omega) _).grown hgrow (by simp; omega) (fun i hi => by have := (hown.lt i hi).1; omega)
        have hown3 : w1.ownsRow w.heap.size 28 1 v' (j + 1) ((us.take (j + 1)).map u64v) := by rw [hTk.out, List.map_take]; exact hown'
        obtain ⟨a2, c3, rfl⟩ : ∃ a2 c3, v' = .slice a2 (j + 1) c3 := by
          rcases hown3.2 with ⟨h1, h2⟩ | ⟨g, c2, cur, h1, _⟩
          · exact ⟨none, 0, by rw [h1, h2]⟩
          · exact ⟨_, c2, h1⟩
        clear hgrow hown hown' hnx hi hz0 hz1 hz2 hget hx
        go_wp2
        go_roundw
        case rel => exact ⟨j + 1, by omega, by rw [hT.out]; go_num, hown3, by show _ ≤ _; rw [hT.out]; omega, hB⟩
        case measure => simp; omega
    · obtain rfl : j = us.length := by omega
      rw [List.take_length] at hown ⊢
      clear hext hdrop hi hz0 hz1 hz2
      go_wp2
      go_ret3
      exact ⟨_, rfl, hown, hnx⟩
end Go.Proofs.Ytmjffmjpefaafae
