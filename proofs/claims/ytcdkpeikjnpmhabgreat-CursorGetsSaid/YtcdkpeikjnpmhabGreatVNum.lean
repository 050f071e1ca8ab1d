/-
  NUMBERS AS BYTES: All, PutAll, by contract; that there is but one way to put them, and that they come back.
-/
import Derived.Test.YtcdkpeikjnpmhabGreatVCut
import Derived.Test.YtcdkpeikjnpmhabGreatVBounds
import Derived.Test.YtcdkpeikjnpmhabGreatVPutAll
namespace Go.Proofs.YtcdkpeikjnpmhabGreat
open Go.ChangeShapes Go.WideShapes Go.ChangeAt Go.RowKit

def u64v (u : Nat) : Value := .int .u64 (u : Int)
theorem infoU : (Tryz.prog.info? 24).map (fun i => (i.zero, i.size, i.bytes)) = some (some (.int .u64 0), 1, 8) := by kernel_rfl
theorem gt_pos (L : List UInt8) : ∀ f i, (gt L f i).2.2 = 0 → 1 ≤ (gt L f i).2.1
  | 0, i, h => by simp [gt] at h
  | f + 1, i, h => by
    rw [gt] at h ⊢
    split at h
    · rename_i h1
      rw [if_pos h1]
      split at h
      · cases h
      · rename_i h2
        rw [if_neg h2]
        split at h
        · rename_i h3; rw [if_pos h3]; exact gt_pos L f (i + 1) h
        · rename_i h3
          rw [if_neg h3]
          split at h
          · cases h
          · rename_i h4; rw [if_neg h4]; exact Nat.le_add_left _ _
    · cases h
theorem owns_below {w w' : World} {base : Nat} {e : TypeId} {size : Nat} {v : Value} {n : Nat} {xs : List Value} (h : w.ownsRow base e size v n xs) (hb : Below w.heap.size w w') : w'.ownsRow base e size v n xs := by
  refine ⟨h.1, ?_⟩
  rcases h.2 with h2 | ⟨g, cap, cur, h1, h2, h3, h4⟩
  · exact .inl h2
  · exact .inr ⟨g, cap, cur, h1, h2, (hb.block g (Array.getElem?_eq_some_iff.1 h3).1).trans h3, h4⟩
theorem slice_form {w : World} {base : Nat} {e : TypeId} {size : Nat} {v : Value} {n : Nat} {xs : List Value} (h : w.ownsRow base e size v n xs) : ∃ a c, v = .slice a n c := by
  rcases h.2 with ⟨h1, h2⟩ | ⟨g, c2, cur, h1, _⟩
  · exact ⟨none, 0, by rw [h1, h2]⟩
  · exact ⟨_, c2, h1⟩
theorem extract_from (l : List UInt8) (n : Nat) : (bytesOf l).extract n (bytesOf l).size = bytesOf (l.drop n) := by
  apply ByteArray.ext
  apply Array.ext'
  rw [ByteArray.data_extract, Array.toList_extract]
  simp only [bytesOf, List.extract]
  rw [show (ByteArray.mk l.toArray).size = l.length from by simp [ByteArray.size]]
  rw [List.take_of_length_le (by simp)]
theorem get_b (s : ByteArray) (w : World) (hs : s.size ≤ 9223372036854775807) :
    Calls Tryz.prog 18 #[.string s] w fun e w' => e = .returned (tupR (getS s.data.toList)) ∧ Below w.heap.size w w' :=
  (get_c s w hs).mono fun e w' h => ⟨h.1, by rw [h.2]; exact Below.refl _ _⟩
def fa (L : List UInt8) : Nat → List Nat → Nat → List Nat × Nat
  | 0, us, _ => (us, 0)
  | f + 1, us, A => if A < L.length then (if (getS (L.drop A)).2.2 ≠ 0 then ([], (getS (L.drop A)).2.2) else fa L f (us ++ [(getS (L.drop A)).1]) (A + (getS (L.drop A)).2.1)) else (us, 0)
def allS (L : List UInt8) : List Nat × Nat := fa L (L.length + 1) [] 0
theorem back_yes (L : List UInt8) {k : Nat} (c : UInt8) (hk : k ≤ 9) (hl : L.length = k) (ha : ∀ x ∈ L, 128 ≤ x.toNat) (hc : c.toNat < 128) (h : ¬ (c.toNat = 0 ∧ 0 < k)) : putF 11 (val (L ++ [c])) = L ++ [c] :=
  put_val L c ⟨ha, hc⟩ 10 (by omega) (by
    rcases Nat.eq_zero_or_pos k with h0 | h0
    · left; exact List.eq_nil_of_length_eq_zero (by omega)
    · right; omega)
theorem back_no (L : List UInt8) {k : Nat} (c : UInt8) (hk : k ≤ 9) (hl : L.length = k) (h : c.toNat = 0 ∧ 0 < k) : putF 11 (val (L ++ [c])) ≠ L ++ [c] := by
  have hc : c = 0 := UInt8.toNat_inj.1 (by simpa using h.1)
  subst hc
  refine putF_last 11 _ (Nat.lt_of_lt_of_le (val_lt _) (Nat.pow_le_pow_right (by decide) (by simp; omega))) L (fun e => by rw [e] at hl; simp at hl; omega)

set_option maxHeartbeats 500000 in
set_option maxRecDepth 1000000 in
theorem all_g (L : List UInt8) (w : World) (hL : L.length ≤ 1000) :
    Calls Tryz.prog 10 #[.string (bytesOf L)] w fun e w' => ∃ v', e = .returned (.tuple #[v', .int .i64 ((allS L).2 : Nat)]) ∧
      w'.ownsRow w.heap.size 24 1 v' (allS L).1.length ((allS L).1.map u64v) ∧ Below w.heap.size w w' := by
  have hSz : Hid ((bytesOf L).size = L.length) := bytesOf_size L
  have hext := extract_from L
  have hR0 : Hid (allS L = fa L (L.length + 1) [] 0) := rfl
  generalize allS L = R at *
  have hL0 : bytesOf L = bytesOf (L.drop 0) := by rw [List.drop_zero]
  rw [hL0]
  clear hL0 hSz hext
  obtain ⟨i0, hi, hz0, hz1, hz2⟩ := info_parts infoU
  go_enter Tryz.func10, Tryz.ntmps10
  go_wp2
  go_loopw [0, 4] (fun s l wr => ∃ A : Nat, ∃ us : List Nat, s = .string (bytesOf (L.drop A)) ∧ wr.ownsRow w.heap.size 24 1 l us.length (us.map u64v) ∧ Hid (∃ f, R = fa L f us A ∧ L.length + 1 ≤ f + A) ∧ us.length ≤ A ∧ A ≤ L.length ∧ Below w.heap.size w wr)
    (fun s _ _ => match s with | .string b => b.size | _ => 0)
  case atStart => exact ⟨0, [], rfl, World.ownsRow_nil _ _ _ _, ⟨_, hR0.out, Nat.le_refl _⟩, Nat.zero_le _, Nat.zero_le _, Below.refl _ _⟩
  case round =>
    obtain ⟨A, us, rfl, hown, hH, hle, hAL, hnx⟩ := hrel
    obtain ⟨a, c2, rfl⟩ := slice_form hown
    obtain ⟨f, hHf, hff⟩ := hH.out
    have hDz := bytesOf_size (L.drop A)
    rw [List.length_drop] at hDz
    by_cases hlt : A < L.length
    · have hgz : (bytesOf (L.drop A)).size ≤ 9223372036854775807 := by omega
      have hget := fun w => get_b (bytesOf (L.drop A)) w hgz
      rw [bytesOf_list] at hget
      have hbd := getS_bounds (L.drop A)
      have hps : (getS (L.drop A)).2.2 = 0 → 1 ≤ (getS (L.drop A)).2.1 := gt_pos (L.drop A) 11 0
      rw [List.length_drop] at hbd
      obtain ⟨g, rfl⟩ : ∃ g, f = g + 1 := ⟨f - 1, by omega⟩
      have hH2 : Hid (R = if (getS (L.drop A)).2.2 ≠ 0 then ([], (getS (L.drop A)).2.2) else fa L g (us ++ [(getS (L.drop A)).1]) (A + (getS (L.drop A)).2.1)) := by
        show _ = _
        rw [hHf, fa, if_pos hlt]
      have hxk := extract_from (L.drop A)
      have hDp : 0 < (bytesOf (L.drop A)).size := by omega
      have hDs : ∀ k, k ≤ L.length - A → k ≤ (bytesOf (L.drop A)).size := fun k hk => by omega
      have hDl : Hid ((bytesOf (L.drop A)).size = L.length - A) := hDz
      have hdd : ∀ k, (L.drop A).drop k = L.drop (A + k) := fun k => by rw [List.drop_drop]
      clear hgz hH hR0 hHf hDz
      generalize getS (L.drop A) = r at *
      obtain ⟨u, k, e⟩ := r
      have hxk := hxk k
      rw [hdd k] at hxk
      clear hdd
      unfold tupR at hget
      simp only at hget hbd hps
      have hsz := hnx.size
      by_cases he : e = 0
      · subst he
        obtain ⟨hu, hk⟩ := hbd rfl
        have hk1 := hps rfl
        have hk2 : A + k ≤ L.length := by omega
        have hks := hDs k hk
        have hm : Hid ((bytesOf (L.drop (A + k))).size < (bytesOf (L.drop A)).size) := by
          show _ < _
          rw [bytesOf_size, hDl.out, List.length_drop]; omega
        generalize bytesOf (L.drop A) = D at *
        have hH3 : Hid (∃ f, R = fa L f (us ++ [u]) (A + k) ∧ L.length + 1 ≤ f + (A + k)) := ⟨g, by rw [hH2.out, if_neg (by simp)], by omega⟩
        have hul : us.length ≤ 1000 := by omega
        clear hH2 hbd hps hk hDl hDs
        go_wp2_with (first
          | (go_at_call 18; refine (hget _).mono ?_; rintro e w' ⟨rfl, hB⟩; have hown2 := owns_below hown hB; have hnx2 := hnx.trans (hB.mono hnx.size); have hsz2 := hnx2.size)
          | (at_builtin; refine wpList_append_own _ rfl _ _ 36 rfl w.heap.size 24 i0 (.int .u64 0) 1 8 Tryz.underlying36 hi hz0 hz1 hz2 rfl (by decide) _ _ _ rfl (hown2.alloc _) ⟨w'.heap.size, 0, none⟩ 1 1 [.int .u64 (u : Int)] rfl rfl (cell_one_new _ _ _) ?c2 ?c3 ?c4 ?c5 ?_))
        case c2 => intro x hx; simp at hx; subst hx; rfl
        case c3 => unfold maxLen; omega
        case c4 => omega
        case c5 => simp; omega
        · intro v' w1 hown' hgrow _
          have hB1 : Below w.heap.size w w1 := (hnx2.alloc (by omega) _).grown hgrow (by simp; omega) (fun i hi => by have := (hown2.lt i hi).1; omega)
          have hl1 : (us ++ [u]).length = us.length + 1 := by simp
          have hown3 : w1.ownsRow w.heap.size 24 1 v' (us ++ [u]).length ((us ++ [u]).map u64v) := by rw [hl1, List.map_append]; exact hown'
          clear hgrow hown hown2 hown' hnx hnx2 hi hz0 hz1 hz2 hget hB
          go_wp2
          go_roundw
          case rel => exact ⟨A + k, us ++ [u], by first | rfl | rw [hxk], hown3, hH3, by rw [hl1]; omega, hk2, hB1⟩
          case measure => first | exact hm.out | (simp only [hxk]; exact hm.out)
      · have he' : ((e : Int) != 0) = true := by simp; omega
        have hR : R = ([], e) := by rw [hH2.out, if_pos he]
        clear hH2 hbd hps he hDl hDs hxk
        generalize bytesOf (L.drop A) = D at *
        subst hR
        go_wp2_with (go_at_call 18; refine (hget _).mono ?_; rintro e w' ⟨rfl, hB⟩)
        go_ret2
        exact ⟨_, rfl, World.ownsRow_nil _ _ _ _, hnx.trans (hB.mono hnx.size)⟩
    · have hR : R = (us, 0) := by
        rw [hHf]
        cases f with
        | zero => rfl
        | succ g => rw [fa, if_neg hlt]
      have hDn : (bytesOf (L.drop A)).size ≤ 0 := by omega
      clear hH hR0 hHf hDz
      generalize bytesOf (L.drop A) = D at *
      subst hR
      go_wp2
      go_ret2
      exact ⟨_, rfl, hown, hnx⟩
theorem gt_put (L : List UInt8) : ∀ f i, f + i = 11 → (∀ x ∈ L.take i, 128 ≤ x.toNat) → (gt L f i).2.2 = 0 → put (gt L f i).1 = L.take (gt L f i).2.1
  | 0, i, _, _, h => by simp [gt] at h
  | f + 1, i, hf, ha, h => by
    rw [gt] at h ⊢
    split at h
    · rename_i h1
      rw [if_pos h1]
      have ht := take_snocU L i h1.1
      split at h
      · cases h
      · rename_i h2
        rw [if_neg h2]
        split at h
        · rename_i h3
          rw [if_pos h3]
          refine gt_put L f (i + 1) (by omega) (fun x hx => ?_) h
          rw [ht] at hx
          rcases List.mem_append.1 hx with hx | hx
          · exact ha x hx
          · rw [List.mem_singleton.1 hx]; exact h3
        · rename_i h3
          rw [if_neg h3]
          split at h
          · cases h
          · rename_i h4
            rw [if_neg h4]
            show putF 11 (val (L.take (i + 1))) = L.take (i + 1)
            rw [ht]
            exact back_yes (L.take i) (L.getD i 0) (k := i) (by omega) (by rw [List.length_take]; omega) ha (by omega) h4
    · cases h
theorem getS_put (L : List UInt8) (h : (getS L).2.2 = 0) : put (getS L).1 = L.take (getS L).2.1 := gt_put L 11 0 rfl (fun x hx => by simp at hx) h
theorem fa_bts (L : List UInt8) : ∀ f us A, bts us = L.take A → A ≤ L.length → L.length + 1 ≤ f + A → (fa L f us A).2 = 0 → bts (fa L f us A).1 = L
  | 0, us, A, _, hA, hf, _ => by omega
  | f + 1, us, A, hb, hA, hf, h => by
    rw [fa] at h ⊢
    split at h
    · rename_i h1
      rw [if_pos h1]
      split at h
      · rename_i h2; exact absurd h h2
      · rename_i h2
        rw [if_neg h2]
        have h3 : (getS (L.drop A)).2.2 = 0 := by omega
        have hbd := getS_bounds (L.drop A) h3
        have hps : 1 ≤ (getS (L.drop A)).2.1 := gt_pos (L.drop A) 11 0 h3
        rw [List.length_drop] at hbd
        refine fa_bts L f _ _ ?_ (by omega) (by omega) h
        rw [bts_snoc, getS_put _ h3, hb, List.take_add]
    · rename_i h1
      rw [if_neg h1]
      rw [hb, List.take_of_length_le (by omega)]
theorem allS_bts (L : List UInt8) (h : (allS L).2 = 0) : bts (allS L).1 = L := fa_bts L _ [] 0 (by simp [bts]) (Nat.zero_le _) (by omega) h
theorem fa_num (L : List UInt8) : ∀ f us A, (∀ u ∈ us, u < 18446744073709551616) → ∀ u ∈ (fa L f us A).1, u < 18446744073709551616
  | 0, us, A, h => h
  | f + 1, us, A, h => by
    rw [fa]
    split
    · split
      · simp
      · refine fa_num L f _ _ fun u hu => ?_
        rcases List.mem_append.1 hu with hu | hu
        · exact h u hu
        · rw [List.mem_singleton.1 hu]; exact getS_num _
    · exact h
theorem fa_len (L : List UInt8) : ∀ f us A, us.length ≤ A → A ≤ L.length → (fa L f us A).1.length ≤ L.length
  | 0, us, A, h, h2 => by simp only [fa]; omega
  | f + 1, us, A, h, h2 => by
    rw [fa]
    split
    · split
      · simp
      · rename_i h4
        have h3 : (getS (L.drop A)).2.2 = 0 := by omega
        have hbd := getS_bounds (L.drop A) h3
        have hps : 1 ≤ (getS (L.drop A)).2.1 := gt_pos (L.drop A) 11 0 h3
        rw [List.length_drop] at hbd
        exact fa_len L f _ _ (by simp; omega) (by omega)
    · show us.length ≤ _; omega
theorem bts_len (us : List Nat) : (bts us).length ≤ 11 * us.length := by
  induction us with
  | nil => simp [bts]
  | cons u us ih =>
    have h := putF_len 11 u
    have e : (bts (u :: us)).length = (put u).length + (bts us).length := by simp [bts]
    rw [e, List.length_cons]
    have : (put u).length ≤ 11 := h
    omega
theorem bts_split (us : List Nat) (j : Nat) (hj : j < us.length) : bts us = bts (us.take j) ++ (put (us.getD j 0) ++ bts (us.drop (j + 1))) := by
  have e : us = us.take j ++ us.getD j 0 :: us.drop (j + 1) := by
    have : us.getD j 0 = us[j] := by simp [List.getD, hj]
    rw [this, List.getElem_cons_drop hj, List.take_append_drop]
  conv => lhs; rw [e]
  simp [bts]
set_option maxHeartbeats 1600000 in
set_option maxRecDepth 1000000 in
theorem putAll_c (v : Value) (us : List Nat) (w : World) (hv : Holds w v (us.map u64v)) (hz : us.length ≤ 1000) (hus : ∀ u ∈ us, u < 18446744073709551616) :
    Calls Tryz.prog 12 #[v] w fun e w' => e = .returned (.string (bytesOf (bts us))) ∧ Below w.heap.size w w' := by
  obtain ⟨a, cap, rfl, hrow⟩ := hv
  rw [List.length_map]
  go_enter Tryz.func12, Tryz.ntmps12
  go_wp2
  go_loopw [3, 4] (fun b i wr => ∃ j : Nat, j ≤ us.length ∧ i = .int .i64 j ∧ b = .string (bytesOf (bts (us.take j))) ∧ Below w.heap.size w wr)
    (fun _ i _ => us.length - (intOf i).toNat)
  case atStart => exact ⟨0, Nat.zero_le _, rfl, rfl, Below.refl _ _⟩
  case round =>
    obtain ⟨j, hj, rfl, rfl, hnx⟩ := hrel
    by_cases hlt : j < us.length
    · rcases hrow with h0 | ⟨b, off, rfl, hb, hc⟩
      · simp only [List.map_eq_nil_iff] at h0; subst h0; simp at hlt
      have hcx : wr.cell? ⟨b, off + j, none⟩ = some (.int .u64 ((us.getD j 0 : Nat) : Int)) := (hnx.cell (by exact hb)).trans (hc j _ (by simp [hlt, u64v]))
      have hu := hus (us.getD j 0) (by simp [List.getD, hlt])
      have htk : us.take (j + 1) = us.take j ++ [us.getD j 0] := by rw [List.take_add_one, List.getElem?_eq_getElem hlt]; simp [List.getD, hlt]
      have hT : bytesOf (bts (us.take j)) ++ bytesOf (put (us.getD j 0)) = bytesOf (bts (us.take (j + 1))) := by rw [bytesOf_append, htk, bts_snoc]
      have hl1 := bts_len (us.take j)
      rw [List.length_take] at hl1
      have hl2 : (put (us.getD j 0)).length ≤ 11 := putF_len 11 _
      rw [← bytesOf_size] at hl1 hl2
      have hrp : ∀ w, Calls Tryz.prog 21 #[.int .u64 ((us.getD j 0 : Nat) : Int)] w fun e w' => e = .returned (.string (bytesOf (put (us.getD j 0)))) ∧ Below w.heap.size w w' :=
        fun w => rput_c 10 _ w (by omega) (Nat.lt_of_lt_of_le hu (by decide)) hu
      have hs2 : ¬ (9223372036854775807 < (bytesOf (bts (us.take j))).size + (bytesOf (put (us.getD j 0))).size) := by omega
      clear hc htk hl1 hl2
      generalize us.getD j 0 = u at *
      generalize bytesOf (bts (us.take j)) = A at *
      generalize bytesOf (put u) = B at *
      go_wp2_with (go_at_call 21; refine (hrp _).mono ?_; rintro e w' ⟨rfl, hB⟩)
      go_roundw
      case rel => exact ⟨j + 1, by omega, by go_num, by first | rfl | rw [hT], hnx.trans (hB.mono hnx.size)⟩
      case measure => simp [intOf]; omega
    · obtain rfl : j = us.length := by omega
      rw [List.take_length]
      go_wp2
      go_ret
      exact ⟨rfl, hnx⟩
end Go.Proofs.YtcdkpeikjnpmhabGreat
