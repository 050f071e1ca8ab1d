/-
  WHICH NUMBERS A TEXT IS: All, the program's and the reference's, by contract; and that there is but one way to put them.
-/
import Derived.Test.YtmjffmjpefaafadVLists
namespace Go.Proofs.Ytmjffmjpefaafad
open Go.ChangeShapes Go.WideShapes Go.ChangeAt Go.RowKit

def fa (L : List UInt8) : Nat → List Nat → Nat → List Nat × Nat
  | 0, us, _ => (us, 0)
  | f + 1, us, A => if A < L.length then (if (getS (L.drop A)).2.2 ≠ 0 then ([], (getS (L.drop A)).2.2) else fa L f (us ++ [(getS (L.drop A)).1]) (A + (getS (L.drop A)).2.1)) else (us, 0)
def allS (L : List UInt8) : List Nat × Nat := fa L (L.length + 1) [] 0

set_option maxHeartbeats 500000 in
set_option maxRecDepth 1000000 in
theorem all_g (L : List UInt8) (w : World) (hL : L.length ≤ 1000) :
    Calls Try.prog 9 #[.string (bytesOf L)] w fun e w' => ∃ v', e = .returned (.tuple #[v', .int .i64 ((allS L).2 : Nat)]) ∧
      w'.ownsRow w.heap.size 23 1 v' (allS L).1.length ((allS L).1.map u64v) ∧ Below w.heap.size w w' := by
  have hSz : Hid ((bytesOf L).size = L.length) := bytesOf_size L
  have hext := extract_from L
  have hR0 : Hid (allS L = fa L (L.length + 1) [] 0) := rfl
  generalize allS L = R at *
  have hL0 : bytesOf L = bytesOf (L.drop 0) := by rw [List.drop_zero]
  rw [hL0]
  clear hL0 hSz hext
  obtain ⟨i0, hi, hz0, hz1, hz2⟩ := info_parts infoU
  go_enter Try.func9, Try.ntmps9
  go_wp2
  go_loopw [0, 4] (fun s l wr => ∃ A : Nat, ∃ us : List Nat, s = .string (bytesOf (L.drop A)) ∧ wr.ownsRow w.heap.size 23 1 l us.length (us.map u64v) ∧ Hid (∃ f, R = fa L f us A ∧ L.length + 1 ≤ f + A) ∧ us.length ≤ A ∧ A ≤ L.length ∧ Below w.heap.size w wr)
    (fun s _ _ => match s with | .string b => b.size | _ => 0)
  case atStart => exact ⟨0, [], rfl, World.ownsRow_nil _ _ _ _, ⟨_, hR0.out, Nat.le_refl _⟩, Nat.zero_le _, Nat.zero_le _, Below.refl _ _⟩
  case round =>
    obtain ⟨A, us, rfl, hown, hH, hle, hAL, hnx⟩ := hrel
    obtain ⟨a, c2, rfl⟩ := slice_form hown
    obtain ⟨f, hHf, hff⟩ := hH.out
    have hDz := bytesOf_size (L.drop A)
    rw [List.length_drop] at hDz
    by_cases hlt : A < L.length
    · have hgz : (bytesOf (L.drop A)).size ≤ 9223372036854775807 := by omega
      have hget := fun w => get_b (bytesOf (L.drop A)) w hgz
      rw [bytesOf_list] at hget
      have hbd := getS_bounds (L.drop A)
      have hps : (getS (L.drop A)).2.2 = 0 → 1 ≤ (getS (L.drop A)).2.1 := gt_pos (L.drop A) 11 0
      rw [List.length_drop] at hbd
      obtain ⟨g, rfl⟩ : ∃ g, f = g + 1 := ⟨f - 1, by omega⟩
      have hH2 : Hid (R = if (getS (L.drop A)).2.2 ≠ 0 then ([], (getS (L.drop A)).2.2) else fa L g (us ++ [(getS (L.drop A)).1]) (A + (getS (L.drop A)).2.1)) := by
        show _ = _
        rw [hHf, fa, if_pos hlt]
      have hxk := extract_from (L.drop A)
      have hDp : 0 < (bytesOf (L.drop A)).size := by omega
      have hDs : ∀ k, k ≤ L.length - A → k ≤ (bytesOf (L.drop A)).size := fun k hk => by omega
      have hDl : Hid ((bytesOf (L.drop A)).size = L.length - A) := hDz
      have hdd : ∀ k, (L.drop A).drop k = L.drop (A + k) := fun k => by rw [List.drop_drop]
      clear hgz hH hR0 hHf hDz
      generalize getS (L.drop A) = r at *
      obtain ⟨u, k, e⟩ := r
      have hxk := hxk k
      rw [hdd k] at hxk
      clear hdd
      unfold tupR at hget
      simp only at hget hbd hps
      have hsz := hnx.size
      by_cases he : e = 0
      · subst he
        obtain ⟨hu, hk⟩ := hbd rfl
        have hk1 := hps rfl
        have hk2 : A + k ≤ L.length := by omega
        have hks := hDs k hk
        have hm : Hid ((bytesOf (L.drop (A + k))).size < (bytesOf (L.drop A)).size) := by
          show _ < _
          rw [bytesOf_size, hDl.out, List.length_drop]; omega
        generalize bytesOf (L.drop A) = D at *
        have hH3 : Hid (∃ f, R = fa L f (us ++ [u]) (A + k) ∧ L.length + 1 ≤ f + (A + k)) := ⟨g, by rw [hH2.out, if_neg (by simp)], by omega⟩
        have hul : us.length ≤ 1000 := by omega
        clear hH2 hbd hps hk hDl hDs
        go_wp2_with (first
          | (go_at_call 5; refine (hget _).mono ?_; rintro e w' ⟨rfl, hB⟩; have hown2 := owns_below hown hB; have hnx2 := hnx.trans (hB.mono hnx.size); have hsz2 := hnx2.size)
          | (at_builtin; refine wpList_append_own _ rfl _ _ 27 rfl w.heap.size 23 i0 (.int .u64 0) 1 8 Try.underlying27 hi hz0 hz1 hz2 rfl (by decide) _ _ _ rfl (hown2.alloc _) ⟨w'.heap.size, 0, none⟩ 1 1 [.int .u64 (u : Int)] rfl rfl (cell_one_new _ _ _) ?c2 ?c3 ?c4 ?c5 ?_))
        case c2 => intro x hx; simp at hx; subst hx; rfl
        case c3 => unfold maxLen; omega
        case c4 => omega
        case c5 => simp; omega
        · intro v' w1 hown' hgrow _
          have hB1 : Below w.heap.size w w1 := (hnx2.alloc (by omega) _).grown hgrow (by simp; omega) (fun i hi => by have := (hown2.lt i hi).1; omega)
          have hl1 : (us ++ [u]).length = us.length + 1 := by simp
          have hown3 : w1.ownsRow w.heap.size 23 1 v' (us ++ [u]).length ((us ++ [u]).map u64v) := by rw [hl1, List.map_append]; exact hown'
          clear hgrow hown hown2 hown' hnx hnx2 hi hz0 hz1 hz2 hget hB
          go_wp2
          go_roundw
          case rel => exact ⟨A + k, us ++ [u], by first | rfl | rw [hxk], hown3, hH3, by rw [hl1]; omega, hk2, hB1⟩
          case measure => first | exact hm.out | (simp only [hxk]; exact hm.out)
      · have he' : ((e : Int) != 0) = true := by simp; omega
        have hR : R = ([], e) := by rw [hH2.out, if_pos he]
        clear hH2 hbd hps he hDl hDs hxk
        generalize bytesOf (L.drop A) = D at *
        subst hR
        go_wp2_with (go_at_call 5; refine (hget _).mono ?_; rintro e w' ⟨rfl, hB⟩)
        go_ret2
        exact ⟨_, rfl, World.ownsRow_nil _ _ _ _, hnx.trans (hB.mono hnx.size)⟩
    · have hR : R = (us, 0) := by
        rw [hHf]
        cases f with
        | zero => rfl
        | succ g => rw [fa, if_neg hlt]
      have hDn : (bytesOf (L.drop A)).size ≤ 0 := by omega
      clear hH hR0 hHf hDz
      generalize bytesOf (L.drop A) = D at *
      subst hR
      go_wp2
      go_ret2
      exact ⟨_, rfl, hown, hnx⟩

set_option maxHeartbeats 500000 in
set_option maxRecDepth 1000000 in
theorem rall_g (L : List UInt8) (w : World) (hL : L.length ≤ 1000) :
    Calls Try.prog 10 #[.string (bytesOf L)] w fun e w' => ∃ v', e = .returned (.tuple #[v', .int .i64 ((allS L).2 : Nat)]) ∧
      w'.ownsRow w.heap.size 23 1 v' (allS L).1.length ((allS L).1.map u64v) ∧ Below w.heap.size w w' := by
  have hSz : Hid ((bytesOf L).size = L.length) := bytesOf_size L
  have hext := extract_from L
  have hR0 : Hid (allS L = fa L (L.length + 1) [] 0) := rfl
  generalize allS L = R at *
  have hSb : (bytesOf L).size ≤ 1000 := by rw [hSz.out]; exact hL
  generalize bytesOf L = S at *
  obtain ⟨i0, hi, hz0, hz1, hz2⟩ := info_parts infoU
  go_enter Try.func10, Try.ntmps10
  go_wp2
  go_loopw [4, 5] (fun l at0 wr => ∃ A : Nat, ∃ us : List Nat, at0 = .int .i64 (A : Nat) ∧ wr.ownsRow w.heap.size 23 1 l us.length (us.map u64v) ∧ Hid (∃ f, R = fa L f us A ∧ L.length + 1 ≤ f + A) ∧ us.length ≤ A ∧ A ≤ L.length ∧ A ≤ S.size ∧ Below w.heap.size w wr)
    (fun _ at0 _ => L.length - (intOf at0).toNat)
  case atStart => exact ⟨0, [], rfl, World.ownsRow_made w #[] 0 (Nat.le_refl _) (by unfold maxLen; omega) rfl, ⟨_, hR0.out, Nat.le_refl _⟩, Nat.zero_le _, Nat.zero_le _, Nat.zero_le _, (Below.refl _ _).alloc (Nat.le_refl _) _⟩
  case round =>
    obtain ⟨A, us, rfl, hown, hH, hle, hAL, hAS, hnx⟩ := hrel
    obtain ⟨a, c2, rfl⟩ := slice_form hown
    obtain ⟨f, hHf, hff⟩ := hH.out
    have hDz := bytesOf_size (L.drop A)
    rw [List.length_drop] at hDz
    by_cases hlt : A < L.length
    · have hgz : (bytesOf (L.drop A)).size ≤ 9223372036854775807 := by omega
      have hget := fun w => rget_c (bytesOf (L.drop A)) w hgz
      rw [bytesOf_list] at hget
      have hbd := getS_bounds (L.drop A)
      have hps : (getS (L.drop A)).2.2 = 0 → 1 ≤ (getS (L.drop A)).2.1 := gt_pos (L.drop A) 11 0
      rw [List.length_drop] at hbd
      obtain ⟨g, rfl⟩ : ∃ g, f = g + 1 := ⟨f - 1, by omega⟩
      have hH2 : Hid (R = if (getS (L.drop A)).2.2 ≠ 0 then ([], (getS (L.drop A)).2.2) else fa L g (us ++ [(getS (L.drop A)).1]) (A + (getS (L.drop A)).2.1)) := by
        show _ = _
        rw [hHf, fa, if_pos hlt]
      have hx := hext A
      have hlt2 : A < S.size := by rw [hSz.out]; exact hlt
      have hSL := hSz.out
      clear hgz hH hR0 hHf hDz hext hSz
      generalize bytesOf (L.drop A) = D at *
      generalize getS (L.drop A) = r at *
      obtain ⟨u, k, e⟩ := r
      unfold tupR at hget
      simp only at hget hbd hps
      have hsz := hnx.size
      by_cases he : e = 0
      · subst he
        obtain ⟨hu, hk⟩ := hbd rfl
        have hk1 := hps rfl
        have hk2 : A + k ≤ L.length := by omega
        have hk3 : A + k ≤ S.size := by omega
        have hH3 : Hid (∃ f, R = fa L f (us ++ [u]) (A + k) ∧ L.length + 1 ≤ f + (A + k)) := ⟨g, by rw [hH2.out, if_neg (by simp)], by omega⟩
        have hul : us.length ≤ 1000 := by omega
        clear hH2 hbd hps hk hSL
        go_wp2_with (first
          | (go_at_call 6; refine (hget _).mono ?_; rintro e w' ⟨rfl, hB⟩; have hown2 := owns_below hown hB; have hnx2 := hnx.trans (hB.mono hnx.size); have hsz2 := hnx2.size)
          | (at_builtin; refine wpList_append_own _ rfl _ _ 27 rfl w.heap.size 23 i0 (.int .u64 0) 1 8 Try.underlying27 hi hz0 hz1 hz2 rfl (by decide) _ _ _ rfl (hown2.alloc _) ⟨w'.heap.size, 0, none⟩ 1 1 [.int .u64 (u : Int)] rfl rfl (cell_one_new _ _ _) ?c2 ?c3 ?c4 ?c5 ?_))
        case c2 => intro x hx; simp at hx; subst hx; rfl
        case c3 => unfold maxLen; omega
        case c4 => omega
        case c5 => simp; omega
        · intro v' w1 hown' hgrow _
          have hB1 : Below w.heap.size w w1 := (hnx2.alloc (by omega) _).grown hgrow (by simp; omega) (fun i hi => by have := (hown2.lt i hi).1; omega)
          have hl1 : (us ++ [u]).length = us.length + 1 := by simp
          have hown3 : w1.ownsRow w.heap.size 23 1 v' (us ++ [u]).length ((us ++ [u]).map u64v) := by rw [hl1, List.map_append]; exact hown'
          clear hgrow hown hown2 hown' hnx hnx2 hi hz0 hz1 hz2 hget hB
          go_wp2
          go_roundw
          case rel => exact ⟨A + k, us ++ [u], by go_num, hown3, hH3, by rw [hl1]; omega, hk2, hk3, hB1⟩
          case measure => simp [intOf]; omega
      · have he' : ((e : Int) != 0) = true := by simp; omega
        have hR : R = ([], e) := by rw [hH2.out, if_pos he]
        clear hH2 hbd hps he hSL
        skip
        subst hR
        go_wp2_with (go_at_call 6; refine (hget _).mono ?_; rintro e w' ⟨rfl, hB⟩)
        go_ret2
        exact ⟨_, rfl, World.ownsRow_nil _ _ _ _, hnx.trans (hB.mono hnx.size)⟩
    · have hR : R = (us, 0) := by
        rw [hHf]
        cases f with
        | zero => rfl
        | succ g => rw [fa, if_neg hlt]
      have hlt2 : S.size ≤ A := by rw [hSz.out]; omega
      clear hH hR0 hHf hDz hext hSz
      subst hR
      go_wp2
      go_ret2
      exact ⟨_, rfl, hown, hnx⟩
end Go.Proofs.Ytmjffmjpefaafad
