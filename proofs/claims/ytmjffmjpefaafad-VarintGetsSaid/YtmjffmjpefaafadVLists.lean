/-
  WHICH NUMBERS A TEXT BEGINS WITH, AND IS: List and All, the program's and the reference's, by contract.
-/
import Derived.Test.YtmjffmjpefaafadVCut
import Derived.Test.YtmjffmjpefaafadVBounds
import Derived.Test.YtmjffmjpefaafadVRGet
import Derived.Test.YtmjffmjpefaafadVPutAll
import Derived.Test.YtmjffmjpefaafadSameU
namespace Go.Proofs.Ytmjffmjpefaafad
open Go.ChangeShapes Go.WideShapes Go.ChangeAt Go.RowKit

def u64v (u : Nat) : Value := .int .u64 (u : Int)
theorem infoU : (Try.prog.info? 23).map (fun i => (i.zero, i.size, i.bytes)) = some (some (.int .u64 0), 1, 8) := by kernel_rfl
theorem gt_pos (L : List UInt8) : ∀ f i, (gt L f i).2.2 = 0 → 1 ≤ (gt L f i).2.1
  | 0, i, h => by simp [gt] at h
  | f + 1, i, h => by
    rw [gt] at h ⊢
    split at h
    · rename_i h1
      rw [if_pos h1]
      split at h
      · cases h
      · rename_i h2
        rw [if_neg h2]
        split at h
        · rename_i h3; rw [if_pos h3]; exact gt_pos L f (i + 1) h
        · rename_i h3
          rw [if_neg h3]
          split at h
          · cases h
          · rename_i h4; rw [if_neg h4]; exact Nat.le_add_left _ _
    · cases h
def fw (L : List UInt8) : Nat → List Nat → Nat → List Nat × Nat × Nat
  | 0, us, at0 => (us, at0, 0)
  | n + 1, us, at0 => if (getS (L.drop at0)).2.2 ≠ 0 then ([], 0, (getS (L.drop at0)).2.2) else fw L n (us ++ [(getS (L.drop at0)).1]) (at0 + (getS (L.drop at0)).2.1)
def lst (L : List UInt8) (n : Int) : List Nat × Nat × Nat := if n < 0 then ([], 0, 1) else fw L n.toNat [] 0
theorem owns_below {w w' : World} {base : Nat} {e : TypeId} {size : Nat} {v : Value} {n : Nat} {xs : List Value} (h : w.ownsRow base e size v n xs) (hb : Below w.heap.size w w') : w'.ownsRow base e size v n xs := by
  refine ⟨h.1, ?_⟩
  rcases h.2 with h2 | ⟨g, cap, cur, h1, h2, h3, h4⟩
  · exact .inl h2
  · exact .inr ⟨g, cap, cur, h1, h2, (hb.block g (Array.getElem?_eq_some_iff.1 h3).1).trans h3, h4⟩
theorem slice_form {w : World} {base : Nat} {e : TypeId} {size : Nat} {v : Value} {n : Nat} {xs : List Value} (h : w.ownsRow base e size v n xs) : ∃ a c, v = .slice a n c := by
  rcases h.2 with ⟨h1, h2⟩ | ⟨g, c2, cur, h1, _⟩
  · exact ⟨none, 0, by rw [h1, h2]⟩
  · exact ⟨_, c2, h1⟩
theorem extract_from (l : List UInt8) (n : Nat) : (bytesOf l).extract n (bytesOf l).size = bytesOf (l.drop n) := by
  apply ByteArray.ext
  apply Array.ext'
  rw [ByteArray.data_extract, Array.toList_extract]
  simp only [bytesOf, List.extract]
  rw [show (ByteArray.mk l.toArray).size = l.length from by simp [ByteArray.size]]
  rw [List.take_of_length_le (by simp)]
theorem get_b (s : ByteArray) (w : World) (hs : s.size ≤ 9223372036854775807) :
    Calls Try.prog 5 #[.string s] w fun e w' => e = .returned (tupR (getS s.data.toList)) ∧ Below w.heap.size w w' :=
  (get_c s w hs).mono fun e w' h => ⟨h.1, by rw [h.2]; exact Below.refl _ _⟩

set_option maxHeartbeats 500000 in
set_option maxRecDepth 1000000 in
theorem list_g (L : List UInt8) (n : Int) (w : World) (hn1 : n ≤ 9223372036854775807) (hL : L.length ≤ 1000) :
    Calls Try.prog 7 #[.string (bytesOf L), .int .i64 n] w fun e w' => ∃ v', e = .returned (.tuple #[v', .int .i64 ((lst L n).2.1 : Nat), .int .i64 ((lst L n).2.2 : Nat)]) ∧
      w'.ownsRow w.heap.size 23 1 v' (lst L n).1.length ((lst L n).1.map u64v) ∧ Below w.heap.size w w' := by
  have hSz := bytesOf_size L
  have hSb : (bytesOf L).size ≤ 1000 := by omega
  have hext := extract_from L
  by_cases hn : n < 0
  · have e : lst L n = ([], 0, 1) := by unfold lst; rw [if_pos hn]
    rw [e]
    generalize bytesOf L = S at *
    go_enter Try.func7, Try.ntmps7
    go_wp2
    go_ret3
    exact ⟨_, rfl, World.ownsRow_nil _ _ _ _, Below.refl _ _⟩
  · have hn0 : 0 ≤ n := by omega
    have hR0 : Hid (lst L n = fw L n.toNat [] 0) := by show _ = _; unfold lst; rw [if_neg hn]
    generalize lst L n = R at *
    have hSH : Hid ((bytesOf L).size = L.length) := hSz
    clear hSz
    generalize bytesOf L = S at *
    obtain ⟨i0, hi, hz0, hz1, hz2⟩ := info_parts infoU
    go_enter Try.func7, Try.ntmps7
    go_wp2
    go_loopw [7, 8] (fun l at0 wr => ∃ A : Nat, ∃ us : List Nat, at0 = .int .i64 (A : Nat) ∧ wr.ownsRow w.heap.size 23 1 l us.length (us.map u64v) ∧ Hid (R = fw L (n.toNat - us.length) us A) ∧ us.length ≤ A ∧ A ≤ S.size ∧ (us.length : Int) ≤ n ∧ Below w.heap.size w wr)
      (fun l _ _ => n.toNat - (match l with | .slice _ n _ => n | _ => 0))
    case atStart => exact ⟨0, [], rfl, World.ownsRow_nil _ _ _ _, hR0.out, Nat.zero_le _, Nat.zero_le _, hn0, Below.refl _ _⟩
    case round =>
      obtain ⟨A, us, rfl, hown, hH, hle, hAS, hun, hnx⟩ := hrel
      obtain ⟨a, c2, rfl⟩ := slice_form hown
      by_cases hlt : (us.length : Int) < n
      · have hx := hext A
        have hgz : (bytesOf (L.drop A)).size ≤ 9223372036854775807 := by rw [bytesOf_size, List.length_drop]; omega
        have hget := fun w => get_b (bytesOf (L.drop A)) w hgz
        rw [bytesOf_list] at hget
        have hbd := getS_bounds (L.drop A)
        have hps := gt_pos (L.drop A) 11 0
        have hps : (getS (L.drop A)).2.2 = 0 → 1 ≤ (getS (L.drop A)).2.1 := hps
        rw [List.length_drop] at hbd
        have hH2 : Hid (R = if (getS (L.drop A)).2.2 ≠ 0 then ([], 0, (getS (L.drop A)).2.2) else fw L (n.toNat - (us.length + 1)) (us ++ [(getS (L.drop A)).1]) (A + (getS (L.drop A)).2.1)) := by
          show _ = _
          rw [hH.out, show n.toNat - us.length = (n.toNat - (us.length + 1)) + 1 by omega, fw]
        have hSL := hSH.out
        clear hext hgz hH hR0 hSH
        generalize bytesOf (L.drop A) = D at *
        generalize getS (L.drop A) = r at *
        obtain ⟨u, k, e⟩ := r
        unfold tupR at hget
        simp only at hget hbd hps
        have hsz := hnx.size
        by_cases he : e = 0
        · subst he
          obtain ⟨hu, hk⟩ := hbd rfl
          have hk1 := hps rfl
          have hk2 : A + k ≤ S.size := by omega
          have hH3 : Hid (R = fw L (n.toNat - (us ++ [u]).length) (us ++ [u]) (A + k)) := by
            show _ = _
            rw [hH2.out, if_neg (by simp), List.length_append]; rfl
          have hul : us.length ≤ 1000 := by omega
          clear hH2 hbd hps hSL hk
          go_wp2_with (first
            | (go_at_call 5; refine (hget _).mono ?_; rintro e w' ⟨rfl, hB⟩; have hown2 := owns_below hown hB; have hnx2 := hnx.trans (hB.mono hnx.size); have hsz2 := hnx2.size)
            | (at_builtin; refine wpList_append_own _ rfl _ _ 27 rfl w.heap.size 23 i0 (.int .u64 0) 1 8 Try.underlying27 hi hz0 hz1 hz2 rfl (by decide) _ _ _ rfl (hown2.alloc _) ⟨w'.heap.size, 0, none⟩ 1 1 [.int .u64 (u : Int)] rfl rfl (cell_one_new _ _ _) ?c2 ?c3 ?c4 ?c5 ?_))
          case c2 => intro x hx; simp at hx; subst hx; rfl
          case c3 => unfold maxLen; omega
          case c4 => omega
          case c5 => simp; omega
          · intro v' w1 hown' hgrow _
            have hB1 : Below w.heap.size w w1 := (hnx2.alloc (by omega) _).grown hgrow (by simp; omega) (fun i hi => by have := (hown2.lt i hi).1; omega)
            have hl1 : (us ++ [u]).length = us.length + 1 := by simp
            have hown3 : w1.ownsRow w.heap.size 23 1 v' (us ++ [u]).length ((us ++ [u]).map u64v) := by rw [hl1, List.map_append]; exact hown'
            obtain ⟨a2, c3, rfl⟩ := slice_form hown3
            rw [hl1]
            clear hgrow hown hown2 hown' hnx hnx2 hi hz0 hz1 hz2 hget hx hB
            go_wp2
            go_roundw
            case rel => exact ⟨A + k, us ++ [u], by go_num, by rw [hl1] at hown3 ⊢; exact hown3, hH3, by rw [hl1]; omega, hk2, by rw [hl1]; omega, hB1⟩
            case measure => simp; omega
        · have he' : ((e : Int) != 0) = true := by simp; omega
          have hR : R = ([], 0, e) := by rw [hH2.out, if_pos he]
          clear hH2 hbd hps he hSL
          subst hR
          go_wp2_with (go_at_call 5; refine (hget _).mono ?_; rintro e w' ⟨rfl, hB⟩)
          go_ret3
          exact ⟨_, rfl, World.ownsRow_nil _ _ _ _, hnx.trans (hB.mono hnx.size)⟩
      · have hR : R = (us, A, 0) := by rw [hH.out, show n.toNat - us.length = 0 by omega, fw]
        clear hH hR0 hext
        subst hR
        go_wp2
        go_ret3
        exact ⟨_, rfl, hown, hnx⟩

set_option maxHeartbeats 500000 in
set_option maxRecDepth 1000000 in
theorem rlist_g (L : List UInt8) (n : Int) (w : World) (hn1 : n ≤ 9223372036854775807) (hL : L.length ≤ 1000) :
    Calls Try.prog 8 #[.string (bytesOf L), .int .i64 n] w fun e w' => ∃ v', e = .returned (.tuple #[v', .int .i64 ((lst L n).2.1 : Nat), .int .i64 ((lst L n).2.2 : Nat)]) ∧
      w'.ownsRow w.heap.size 23 1 v' (lst L n).1.length ((lst L n).1.map u64v) ∧ Below w.heap.size w w' := by
  have hSz := bytesOf_size L
  have hSb : (bytesOf L).size ≤ 1000 := by omega
  have hext := extract_from L
  by_cases hn : n < 0
  · have e : lst L n = ([], 0, 1) := by unfold lst; rw [if_pos hn]
    rw [e]
    generalize bytesOf L = S at *
    go_enter Try.func8, Try.ntmps8
    go_wp2
    go_ret3
    exact ⟨_, rfl, World.ownsRow_nil _ _ _ _, (Below.refl _ _).alloc (Nat.le_refl _) _⟩
  · have hn0 : 0 ≤ n := by omega
    have hR0 : Hid (lst L n = fw L n.toNat [] 0) := by show _ = _; unfold lst; rw [if_neg hn]
    generalize lst L n = R at *
    have hSH : Hid ((bytesOf L).size = L.length) := hSz
    clear hSz
    generalize bytesOf L = S at *
    obtain ⟨i0, hi, hz0, hz1, hz2⟩ := info_parts infoU
    go_enter Try.func8, Try.ntmps8
    go_wp2
    go_loopw [7, 8] (fun l at0 wr => ∃ A : Nat, ∃ us : List Nat, at0 = .int .i64 (A : Nat) ∧ wr.ownsRow w.heap.size 23 1 l us.length (us.map u64v) ∧ Hid (R = fw L (n.toNat - us.length) us A) ∧ us.length ≤ A ∧ A ≤ S.size ∧ (us.length : Int) ≤ n ∧ Below w.heap.size w wr)
      (fun l _ _ => n.toNat - (match l with | .slice _ n _ => n | _ => 0))
    case atStart => exact ⟨0, [], rfl, World.ownsRow_made w #[] 0 (Nat.le_refl _) (by unfold maxLen; omega) rfl, hR0.out, Nat.zero_le _, Nat.zero_le _, hn0, (Below.refl _ _).alloc (Nat.le_refl _) _⟩
    case round =>
      obtain ⟨A, us, rfl, hown, hH, hle, hAS, hun, hnx⟩ := hrel
      obtain ⟨a, c2, rfl⟩ := slice_form hown
      by_cases hlt : (us.length : Int) < n
      · have hx := hext A
        have hgz : (bytesOf (L.drop A)).size ≤ 9223372036854775807 := by rw [bytesOf_size, List.length_drop]; omega
        have hget := fun w => rget_c (bytesOf (L.drop A)) w hgz
        rw [bytesOf_list] at hget
        have hbd := getS_bounds (L.drop A)
        have hps := gt_pos (L.drop A) 11 0
        have hps : (getS (L.drop A)).2.2 = 0 → 1 ≤ (getS (L.drop A)).2.1 := hps
        rw [List.length_drop] at hbd
        have hH2 : Hid (R = if (getS (L.drop A)).2.2 ≠ 0 then ([], 0, (getS (L.drop A)).2.2) else fw L (n.toNat - (us.length + 1)) (us ++ [(getS (L.drop A)).1]) (A + (getS (L.drop A)).2.1)) := by
          show _ = _
          rw [hH.out, show n.toNat - us.length = (n.toNat - (us.length + 1)) + 1 by omega, fw]
        have hSL := hSH.out
        clear hext hgz hH hR0 hSH
        generalize bytesOf (L.drop A) = D at *
        generalize getS (L.drop A) = r at *
        obtain ⟨u, k, e⟩ := r
        unfold tupR at hget
        simp only at hget hbd hps
        have hsz := hnx.size
        by_cases he : e = 0
        · subst he
          obtain ⟨hu, hk⟩ := hbd rfl
          have hk1 := hps rfl
          have hk2 : A + k ≤ S.size := by omega
          have hH3 : Hid (R = fw L (n.toNat - (us ++ [u]).length) (us ++ [u]) (A + k)) := by
            show _ = _
            rw [hH2.out, if_neg (by simp), List.length_append]; rfl
          have hul : us.length ≤ 1000 := by omega
          clear hH2 hbd hps hSL hk
          go_wp2_with (first
            | (go_at_call 6; refine (hget _).mono ?_; rintro e w' ⟨rfl, hB⟩; have hown2 := owns_below hown hB; have hnx2 := hnx.trans (hB.mono hnx.size); have hsz2 := hnx2.size)
            | (at_builtin; refine wpList_append_own _ rfl _ _ 27 rfl w.heap.size 23 i0 (.int .u64 0) 1 8 Try.underlying27 hi hz0 hz1 hz2 rfl (by decide) _ _ _ rfl (hown2.alloc _) ⟨w'.heap.size, 0, none⟩ 1 1 [.int .u64 (u : Int)] rfl rfl (cell_one_new _ _ _) ?c2 ?c3 ?c4 ?c5 ?_))
          case c2 => intro x hx; simp at hx; subst hx; rfl
          case c3 => unfold maxLen; omega
          case c4 => omega
          case c5 => simp; omega
          · intro v' w1 hown' hgrow _
            have hB1 : Below w.heap.size w w1 := (hnx2.alloc (by omega) _).grown hgrow (by simp; omega) (fun i hi => by have := (hown2.lt i hi).1; omega)
            have hl1 : (us ++ [u]).length = us.length + 1 := by simp
            have hown3 : w1.ownsRow w.heap.size 23 1 v' (us ++ [u]).length ((us ++ [u]).map u64v) := by rw [hl1, List.map_append]; exact hown'
            obtain ⟨a2, c3, rfl⟩ := slice_form hown3
            rw [hl1]
            clear hgrow hown hown2 hown' hnx hnx2 hi hz0 hz1 hz2 hget hx hB
            go_wp2
            go_roundw
            case rel => exact ⟨A + k, us ++ [u], by go_num, by rw [hl1] at hown3 ⊢; exact hown3, hH3, by rw [hl1]; omega, hk2, by rw [hl1]; omega, hB1⟩
            case measure => simp; omega
        · have he' : ((e : Int) != 0) = true := by simp; omega
          have hR : R = ([], 0, e) := by rw [hH2.out, if_pos he]
          clear hH2 hbd hps he hSL
          subst hR
          go_wp2_with (go_at_call 6; refine (hget _).mono ?_; rintro e w' ⟨rfl, hB⟩)
          go_ret3
          exact ⟨_, rfl, World.ownsRow_nil _ _ _ _, hnx.trans (hB.mono hnx.size)⟩
      · have hR : R = (us, A, 0) := by rw [hH.out, show n.toNat - us.length = 0 by omega, fw]
        clear hH hR0 hext
        subst hR
        go_wp2
        go_ret3
        exact ⟨_, rfl, hown, hnx⟩
end Go.Proofs.Ytmjffmjpefaafad
