/-
  THOSE OF ONE RISING LIST THAT ARE IN ANOTHER ONE, OR ARE NOT, as the reference picks them: by contract.
-/
import Derived.Test.YtbkldenjldejiaaRefBoth
namespace Go.Proofs.Ytbkldenjldejiaa
open Go.ChangeShapes Go.WideShapes Go.ChangeAt Go.RowKit

theorem pick_end (p r : Nat → Bool) : (L p).filter r = L fun k => p k && r k := by
  rw [L, L, List.filter_filter]
  exact List.filter_congr fun k _ => Bool.and_comm _ _
theorem ints_snoc (xs : List Nat) (y : Nat) : ints (xs ++ [y]) = ints xs ++ [.int .i64 (y : Int)] := by simp [ints]
theorem isAt_in {q : Nat → Bool} {y j : Nat} (hy : y < 65536) (h : Place (L q) (y : Int) j) : isAt (L q) (y : Int) j = q y := by
  rw [isAt_L h]
  have hg : good (y : Int) = true := by simp only [good, Bool.and_eq_true, decide_eq_true_eq]; omega
  rw [hg, Int.toNat_natCast, Bool.true_and]
set_option maxHeartbeats 1600000 in
theorem pick_c (v1 v2 : Value) (p q : Nat → Bool) (t : Bool) (w : World) (h1 : Holds w v1 (ints (L p))) (h2 : Holds w v2 (ints (L q))) : Calls Try.prog 6 #[v1, v2, .bool t] w fun e w' =>
    ∃ v', e = .returned v' ∧ Holds w' v' (ints (L fun k => p k && (q k == t))) ∧ Below w.heap.size w w' := by
  obtain ⟨i0, hi, hz0, hz1, hz2⟩ := info_parts infoI
  obtain ⟨a, cap, rfl, hrow⟩ := h1
  rw [ints_len]
  have hend := pick_end p fun k => q k == t
  have hlp := L_len p
  have hy : Hid (∀ j, j < (L p).length → (L p).getD j 0 < 65536) := fun j hj => L_getD hj
  have hat : Hid (∀ (y : Nat) w, y < 65536 → Holds w v2 (ints (L q)) → Calls Try.prog 11 #[v2, .int .i64 (y : Int)] w fun e w' => ∃ j : Nat, e = .returned (.tuple #[.int .i64 (j : Int), .bool (q y)]) ∧ Below w.heap.size w w') := fun y w hy h => by
    have hl := L_len q
    refine (at_c v2 (L q) (y : Int) w h (by omega)).mono ?_
    rintro e w' ⟨j, he, hp, hB⟩
    rw [isAt_in hy hp] at he
    exact ⟨j, he, hB⟩
  rw [← hend]
  clear hend
  generalize L p = xs at *
  generalize L q = zs at *
  replace h2 := (show Hid _ from h2)
  go_enter Try.func6, Try.ntmps6
  go_wp2_with fail
  go_loopw [7, 8] (fun u i wr => ∃ j : Nat, j ≤ xs.length ∧ i = .int .i64 (j : Int) ∧ Hid (wr.ownsRow w.heap.size 3 1 u ((xs.take j).filter fun k => q k == t).length (ints ((xs.take j).filter fun k => q k == t))) ∧ Hid (Below w.heap.size w wr)) (fun _ i _ => xs.length - (intOf i).toNat)
  case atStart => exact ⟨0, Nat.zero_le _, rfl, World.ownsRow_made w #[] 0 (Nat.le_refl _) (by unfold maxLen; omega) rfl, (Below.refl _ _).alloc (Nat.le_refl _) _⟩
  case round =>
    obtain ⟨j, hj, rfl, hown, hB⟩ := hrel
    by_cases hlt : j < xs.length
    · rcases hrow with h0 | ⟨b, off, rfl, hb, hc⟩
      · have := congrArg List.length h0
        rw [ints_len] at this; simp only [List.length_nil] at this; omega
      have hyj := hy.out j hlt
      have hcx := (hB.out.cell (p := ⟨b, off + j, none⟩) hb).trans (hc j _ (ints_at xs j hlt))
      have hj1 : (j : Int) < (xs.length : Int) := by omega
      have hts := take_snocN xs j hlt
      have hfl : Hid ((xs.take (j + 1)).filter (fun k => q k == t) = (xs.take j).filter (fun k => q k == t) ++ (if q (xs.getD j 0) == t then [xs.getD j 0] else [])) := by
        show _ = _
        rw [hts, List.filter_append, List.filter_cons]
        rfl
      have hcall := hat.out (xs.getD j 0) wr hyj (Holds.below h2.out (hB.out.mono (Nat.le_refl _)))
      have hfn : Hid (((xs.take j).filter fun k => q k == t).length ≤ 65536) := by
        have h3 := List.length_filter_le (fun k => q k == t) (xs.take j)
        have h4 : (xs.take j).length ≤ j := by rw [List.length_take]; omega
        show _ ≤ _
        omega
      generalize (xs.take j).filter (fun k => q k == t) = fs at *
      generalize xs.getD j 0 = y at *
      clear hc hts hyj
      go_wp2_with fail
      refine hcall.mono ?_
      rintro e w2 ⟨at0, rfl, hB2⟩
      have hcx2 := (hB2.cell (World.block_lt_of_cell? _ _ hcx)).trans hcx
      have hown2 := hidden (owns_below hown.out hB2)
      have hBw : Hid (Below w.heap.size w w2) := hB.out.trans (hB2.mono hB.out.size)
      clear hcall hB2 hB hown hcx
      cases hq : (q y == t) with
      | false =>
        rw [hq] at hfl
        have hnext := hown2.out
        have efs : fs = (xs.take (j + 1)).filter fun k => q k == t := by rw [hfl.out]; simp
        rw [efs] at hnext
        replace hnext := hidden hnext
        clear efs
        clear hfl hcx2 hown2
        go_wp2
        go_roundw
        case rel => exact ⟨j + 1, by omega, by go_num, hnext, hBw⟩
        case measure => simp [intOf]; omega
      | true =>
        rw [hq] at hfl
        have hszw := hBw.out.size
        have hown3 := hown2.out
        have hfn2 := hfn.out
        go_wp2_with (at_builtin; refine wpList_append_own _ rfl _ _ 22 rfl w.heap.size 3 i0 (.int .i64 0) 1 8 Try.underlying22 hi hz0 hz1 hz2 rfl (by decide) _ _ _ rfl (hown3.alloc _) ⟨w2.heap.size, 0, none⟩ 1 1 [.int .i64 (y : Int)] rfl rfl (cell_one_new _ _ _) ?c2 ?c3 ?c4 ?c5 ?_)
        case c2 => intro u hu; simp at hu; subst hu; rfl
        case c3 => unfold maxLen; omega
        case c4 => omega
        case c5 => simp; omega
        intro v' w3 hown' hgrow _
        have hnext : Hid (w3.ownsRow w.heap.size 3 1 v' ((xs.take (j + 1)).filter fun k => q k == t).length (ints ((xs.take (j + 1)).filter fun k => q k == t))) := by
          rw [hfl.out]
          simp only [if_true, List.length_append, List.length_cons, List.length_nil]
          rw [ints_snoc]; exact hown'
        have hB3 : Hid (Below w.heap.size w w3) := (hBw.out.alloc hszw _).grown hgrow (by simp; omega) (fun k hk => (hown3.lt k hk).1)
        clear hfl hcx2 hown2 hown3 hown' hgrow hBw
        go_wp2
        go_roundw
        case rel => exact ⟨j + 1, by omega, by go_num, hnext, hB3⟩
        case measure => simp [intOf]; omega
    · have hj1 : ¬ (j : Int) < (xs.length : Int) := by omega
      obtain rfl : j = xs.length := by omega
      have hfin := hown.out
      rw [List.take_length] at hfin
      replace hfin := hidden (holds_of_owns hfin)
      clear hown
      go_wp2
      go_ret
      exact ⟨_, rfl, hfin.out, hB.out⟩
end Go.Proofs.Ytbkldenjldejiaa
