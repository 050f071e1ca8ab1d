/-
  THE TEXT WITH WHICH A TEXT BEGINS: GetText, the program's and the reference's, by one contract.
-/
import Derived.Test.YtmjffmjpefaafabVRGet
import Derived.Test.YtmjffmjpefaafabVPutAll
namespace Go.Proofs.Ytmjffmjpefaafab
open Go.ChangeShapes Go.WideShapes Go.ChangeAt Go.RowKit

theorem gt_bounds (L : List UInt8) : ∀ f i, f + i = 11 → (gt L f i).2.2 = 0 → (gt L f i).1 < 18446744073709551616 ∧ (gt L f i).2.1 ≤ L.length
  | 0, i, _, h => by simp [gt] at h
  | f + 1, i, hf, h => by
    rw [gt] at h ⊢
    split at h
    · rename_i h1
      rw [if_pos h1]
      split at h
      · cases h
      · rename_i h2
        rw [if_neg h2]
        split at h
        · rename_i h3
          rw [if_pos h3]
          exact gt_bounds L f (i + 1) (by omega) h
        · rename_i h3
          rw [if_neg h3]
          split at h
          · cases h
          · rename_i h4
            rw [if_neg h4]
            refine ⟨?_, h1.1⟩
            have ht := take_snocU L i h1.1
            have hv := val_snoc (L.take i) (L.getD i 0)
            have hl : (L.take i).length = i := by rw [List.length_take]; omega
            rw [← ht, hl] at hv
            exact (or_step (by omega) (by omega) (by have := val_lt (L.take i); rwa [hl] at this) hv).2
    · cases h
theorem getS_bounds (L : List UInt8) : (getS L).2.2 = 0 → (getS L).1 < 18446744073709551616 ∧ (getS L).2.1 ≤ L.length := gt_bounds L 11 0 rfl
def gtx (s : ByteArray) (most : Int) : Value :=
  if (getS s.data.toList).2.2 ≠ 0 then .tuple #[.string ⟨#[]⟩, .int .i64 0, .int .i64 ((getS s.data.toList).2.2 : Nat)]
  else if most < 0 ∨ most < ((getS s.data.toList).1 : Int) then .tuple #[.string ⟨#[]⟩, .int .i64 0, .int .i64 5]
  else if (s.size : Int) - ((getS s.data.toList).2.1 : Nat) < ((getS s.data.toList).1 : Nat) then .tuple #[.string ⟨#[]⟩, .int .i64 0, .int .i64 7]
  else .tuple #[.string (s.extract (getS s.data.toList).2.1 ((getS s.data.toList).2.1 + (getS s.data.toList).1)), .int .i64 (((getS s.data.toList).2.1 + (getS s.data.toList).1 : Nat) : Int), .int .i64 0]

set_option maxHeartbeats 800000 in
set_option maxRecDepth 100000 in
theorem gtext_c (s : ByteArray) (most : Int) (w : World) (hs : s.size ≤ 9223372036854775807) (hm0 : -9223372036854775808 ≤ most) (hm1 : most ≤ 9223372036854775807) :
    Calls Try.prog 5 #[.string s, .int .i64 most] w fun e w' => e = .returned (gtx s most) ∧ Below w.heap.size w w' := by
  have hb := getS_bounds s.data.toList
  have hg := fun (w : World) => get_c s w hs
  unfold gtx
  unfold tupR at hg
  have hsz : s.data.toList.length = s.size := by rw [Array.length_toList]; rfl
  rw [hsz] at hb
  generalize getS s.data.toList = r at *
  obtain ⟨u, k, e⟩ := r
  simp only at hb hg ⊢
  by_cases he : e = 0
  · obtain ⟨hu, hk⟩ := hb he
    subst he
    rw [if_neg (by simp)]
    by_cases h1 : most < 0
    · rw [if_pos (.inl h1)]
      go_enter Try.func5, Try.ntmps5
      go_wp2_with (go_at_call 10; refine (hg _).mono ?_; rintro e w' ⟨rfl, rfl⟩)
      go_ret3
      exact ⟨rfl, Below.refl _ _⟩
    · by_cases h2 : most < (u : Int)
      · rw [if_pos (.inr h2)]
        go_enter Try.func5, Try.ntmps5
        go_wp2_with (go_at_call 10; refine (hg _).mono ?_; rintro e w' ⟨rfl, rfl⟩)
        go_ret3
        exact ⟨rfl, Below.refl _ _⟩
      · rw [if_neg (by omega)]
        by_cases h3 : (s.size : Int) - k < u
        · rw [if_pos h3]
          go_enter Try.func5, Try.ntmps5
          go_wp2_with (go_at_call 10; refine (hg _).mono ?_; rintro e w' ⟨rfl, rfl⟩)
          go_ret3
          exact ⟨rfl, Below.refl _ _⟩
        · rw [if_neg h3]
          go_enter Try.func5, Try.ntmps5
          go_wp2_with (go_at_call 10; refine (hg _).mono ?_; rintro e w' ⟨rfl, rfl⟩)
          go_ret3
          exact ⟨rfl, Below.refl _ _⟩
  · rw [if_pos he]
    have he' : ((e : Int) == 0) = false := by simp; omega
    have he2 : ((e : Int) != 0) = true := by simp; omega
    go_enter Try.func5, Try.ntmps5
    go_wp2_with (go_at_call 10; refine (hg _).mono ?_; rintro e w' ⟨rfl, rfl⟩)
    go_ret3
    exact ⟨rfl, Below.refl _ _⟩

set_option maxHeartbeats 800000 in
set_option maxRecDepth 100000 in
theorem rgtext_c (s : ByteArray) (most : Int) (w : World) (hs : s.size ≤ 9223372036854775807) (hm0 : -9223372036854775808 ≤ most) (hm1 : most ≤ 9223372036854775807) :
    Calls Try.prog 6 #[.string s, .int .i64 most] w fun e w' => e = .returned (gtx s most) ∧ Below w.heap.size w w' := by
  have hb := getS_bounds s.data.toList
  have hg := fun (w : World) => rget_c s w hs
  unfold gtx
  unfold tupR at hg
  have hsz : s.data.toList.length = s.size := by rw [Array.length_toList]; rfl
  rw [hsz] at hb
  generalize getS s.data.toList = r at *
  obtain ⟨u, k, e⟩ := r
  simp only at hb hg ⊢
  by_cases he : e = 0
  · obtain ⟨hu, hk⟩ := hb he
    subst he
    rw [if_neg (by simp)]
    by_cases h1 : most < 0
    · rw [if_pos (.inl h1)]
      go_enter Try.func6, Try.ntmps6
      go_wp2_with (go_at_call 11; refine (hg _).mono ?_; rintro e w' ⟨rfl, hB⟩)
      go_ret3
      exact ⟨rfl, hB⟩
    · by_cases h2 : most < (u : Int)
      · rw [if_pos (.inr h2)]
        go_enter Try.func6, Try.ntmps6
        go_wp2_with (go_at_call 11; refine (hg _).mono ?_; rintro e w' ⟨rfl, hB⟩)
        go_ret3
        exact ⟨rfl, hB⟩
      · rw [if_neg (by omega)]
        by_cases h3 : (s.size : Int) - k < u
        · rw [if_pos h3]
          go_enter Try.func6, Try.ntmps6
          go_wp2_with (go_at_call 11; refine (hg _).mono ?_; rintro e w' ⟨rfl, hB⟩)
          go_ret3
          exact ⟨rfl, hB⟩
        · rw [if_neg h3]
          go_enter Try.func6, Try.ntmps6
          go_wp2_with (go_at_call 11; refine (hg _).mono ?_; rintro e w' ⟨rfl, hB⟩)
          go_ret3
          exact ⟨rfl, hB⟩
  · rw [if_pos he]
    have he' : ((e : Int) == 0) = false := by simp; omega
    have he2 : ((e : Int) != 0) = true := by simp; omega
    go_enter Try.func6, Try.ntmps6
    go_wp2_with (go_at_call 11; refine (hg _).mono ?_; rintro e w' ⟨rfl, hB⟩)
    go_ret3
    exact ⟨rfl, hB⟩
end Go.Proofs.Ytmjffmjpefaafab
