/-
  TWO RISING LISTS TOGETHER, AND THOSE OF ONE THAT ARE IN THE OTHER OR ARE NOT, as the reference makes them: by contract.
-/
import Derived.Test.YtieinedancdokaaDoorPE
namespace Go.Proofs.YtieinedancdokaaDoor
open Go.ChangeShapes Go.WideShapes Go.ChangeAt Go.RowKit

theorem L_congr_on {p q : Nat → Bool} (h : ∀ k, k < 65536 → p k = q k) : L p = L q := List.filter_congr fun k hk => h k (List.mem_range.1 hk)
theorem take_snocN (ys : List Nat) (j : Nat) (hj : j < ys.length) : ys.take (j + 1) = ys.take j ++ [ys.getD j 0] := by
  rw [List.take_add_one, List.getElem?_eq_getElem hj]; simp [List.getD, hj]
theorem contains_L (q : Nat → Bool) (k : Nat) (hk : k < 65536) : (L q).contains k = q k := by
  rw [Bool.eq_iff_iff, List.contains_iff_mem, mem_L]
  exact ⟨fun h => h.2, fun h => ⟨hk, h⟩⟩
theorem L_getD {q : Nat → Bool} {j : Nat} (hj : j < (L q).length) : (L q).getD j 0 < 65536 := by
  have e : (L q).getD j 0 = (L q)[j] := by rw [List.getD_eq_getElem?_getD, List.getElem?_eq_getElem hj]; rfl
  rw [e]; exact (mem_L.1 (List.getElem_mem hj)).1
theorem or_more (p : Nat → Bool) (ys : List Nat) (j : Nat) (hj : j < ys.length) (hy : ys.getD j 0 < 65536) :
    (L fun k => (p k || (ys.take j).contains k) || (good ((ys.getD j 0 : Nat) : Int) && k == (((ys.getD j 0 : Nat) : Int)).toNat)) = L fun k => p k || (ys.take (j + 1)).contains k := by
  have hg : good ((ys.getD j 0 : Nat) : Int) = true := by
    simp only [good, Bool.and_eq_true, decide_eq_true_eq]; omega
  rw [take_snocN _ _ hj, hg]
  apply L_congr
  intro k
  rw [Int.toNat_natCast, Bool.true_and]
  clear hy hg
  generalize ys.getD j 0 = y
  generalize ys.take j = t
  rw [Bool.or_assoc]
  congr 1
  rw [Bool.eq_iff_iff]
  simp
/-- One more of the other list. -/
theorem or_step (p q : Nat → Bool) (j : Nat) (hj : j < (L q).length) :
    (L fun k => (p k || ((L q).take j).contains k) || (good (((L q).getD j 0 : Nat) : Int) && k == ((((L q).getD j 0 : Nat) : Int)).toNat)) = L fun k => p k || ((L q).take (j + 1)).contains k :=
  or_more p (L q) j hj (L_getD hj)
theorem or_end (p q : Nat → Bool) : (L fun k => p k || ((L q).take (L q).length).contains k) = L fun k => p k || q k := by
  rw [List.take_length]
  exact L_congr_on fun k hk => by rw [contains_L q k hk]
theorem or_zero (p q : Nat → Bool) : (L fun k => p k || ((L q).take 0).contains k) = L p := L_congr fun k => by rw [List.take_zero]; simp
set_option maxHeartbeats 1600000 in
theorem ror_c (v1 v2 : Value) (p q : Nat → Bool) (B : Nat) (w : World) (hBw : B ≤ w.heap.size) (h1 : SlS B w v1 (L p)) (h2 : Holds w v2 (ints (L q))) : Calls Tryd.prog 10 #[v1, v2] w fun e w' =>
    ∃ v', e = .returned v' ∧ SlS B w' v' (L fun k => p k || q k) ∧ Below w.heap.size w w' := by
  obtain ⟨a, cap, rfl, hrow⟩ := h2
  rw [ints_len]
  obtain ⟨lf, hlf⟩ : ∃ lf : Nat → List Nat, Hid (∀ j, lf j = L fun k => p k || ((L q).take j).contains k) := ⟨fun j => L fun k => p k || ((L q).take j).contains k, (fun _ => rfl : ∀ _, _ = _)⟩
  have hend : lf (L q).length = L fun k => p k || q k := (hlf.out _).trans (or_end p q)
  have hz0 : lf 0 = L p := (hlf.out _).trans (or_zero p q)
  have hadd : Hid (∀ j, j < (L q).length → ∀ u w, B ≤ w.heap.size → SlS B w u (lf j) → Calls Tryd.prog 22 #[u, .int .i64 (((L q).getD j 0 : Nat) : Int)] w fun e w' => ∃ v', e = .returned v' ∧ SlS B w' v' (lf (j + 1)) ∧ Below w.heap.size w w') := by
    intro j hj u w hb h
    rw [hlf.out] at h
    have := radd_c u (fun k => p k || ((L q).take j).contains k) (((L q).getD j 0 : Nat) : Int) B w hb h
    rw [or_step p q j hj] at this
    rw [hlf.out]
    exact this
  have hlq := L_len q
  rw [← hend]
  rw [← hz0] at h1
  clear hend hz0 hlf
  generalize L q = ys at *
  replace h1 := (show Hid _ from h1)
  replace hBw := (show Hid _ from hBw)
  replace hlq := (show Hid _ from hlq)
  go_enter Tryd.func10, Tryd.ntmps10
  go_wp2_with fail
  go_loopw [0, 5] (fun u i wr => ∃ j : Nat, j ≤ ys.length ∧ i = .int .i64 (j : Int) ∧ Hid (SlS B wr u (lf j)) ∧ Hid (Below w.heap.size w wr)) (fun _ i _ => ys.length - (intOf i).toNat)
  case atStart => exact ⟨0, Nat.zero_le _, rfl, h1, Below.refl _ _⟩
  case round =>
    obtain ⟨j, hj, rfl, hS, hB⟩ := hrel
    by_cases hlt : j < ys.length
    · have hadd := fun u w h => hadd.out j hlt u w h
      rcases hrow with h0 | ⟨b, off, rfl, hb, hc⟩
      · have := congrArg List.length h0
        rw [ints_len] at this; simp only [List.length_nil] at this; omega
      have hcx : wr.cell? ⟨b, off + j, none⟩ = some (.int .i64 ((ys.getD j 0 : Nat) : Int)) := (hB.out.cell (by exact hb)).trans (hc j _ (ints_at ys j hlt))
      have hj1 : (j : Int) < (ys.length : Int) := by omega
      clear hc
      generalize ((ys.getD j 0 : Nat) : Int) = z at *
      have hcall := hadd _ wr (Nat.le_trans hBw.out hB.out.size) hS.out
      clear hadd
      go_wp2_with fail
      refine hcall.mono ?_
      rintro e w2 ⟨v', rfl, hS2, hB2⟩
      replace hS2 := (show Hid _ from hS2)
      replace hB2 : Hid (Below w.heap.size w w2) := hB.out.trans (hB2.mono hB.out.size)
      clear hcall hS hB hcx
      have hlq2 := hlq.out
      go_wp2
      go_roundw
      case rel => exact ⟨j + 1, by omega, by go_num, hS2, hB2⟩
      case measure => simp [intOf]; omega
    · have hj1 : ¬ (j : Int) < (ys.length : Int) := by omega
      obtain rfl : j = ys.length := by omega
      clear hadd
      go_wp2
      go_ret
      exact ⟨_, rfl, hS.out, hB.out⟩
end Go.Proofs.YtieinedancdokaaDoor
/-
  THOSE OF ONE RISING LIST THAT ARE IN ANOTHER ONE, OR ARE NOT, as the reference picks them: by contract.
-/
namespace Go.Proofs.YtieinedancdokaaDoor
open Go.ChangeShapes Go.WideShapes Go.ChangeAt Go.RowKit

theorem pick_end (p r : Nat → Bool) : (L p).filter r = L fun k => p k && r k := by
  rw [L, L, List.filter_filter]
  exact List.filter_congr fun k _ => Bool.and_comm _ _
theorem ints_snoc (xs : List Nat) (y : Nat) : ints (xs ++ [y]) = ints xs ++ [.int .i64 (y : Int)] := by simp [ints]
theorem isAt_in {q : Nat → Bool} {y j : Nat} (hy : y < 65536) (h : Place (L q) (y : Int) j) : isAt (L q) (y : Int) j = q y := by
  rw [isAt_L h]
  have hg : good (y : Int) = true := by simp only [good, Bool.and_eq_true, decide_eq_true_eq]; omega
  rw [hg, Int.toNat_natCast, Bool.true_and]
set_option maxHeartbeats 1600000 in
theorem pick_c (v1 v2 : Value) (p q : Nat → Bool) (t : Bool) (w : World) (h1 : Holds w v1 (ints (L p))) (h2 : Holds w v2 (ints (L q))) : Calls Tryd.prog 12 #[v1, v2, .bool t] w fun e w' =>
    ∃ v', e = .returned v' ∧ Holds w' v' (ints (L fun k => p k && (q k == t))) ∧ Below w.heap.size w w' := by
  obtain ⟨i0, hi, hz0, hz1, hz2⟩ := info_parts infoI
  obtain ⟨a, cap, rfl, hrow⟩ := h1
  rw [ints_len]
  have hend := pick_end p fun k => q k == t
  have hlp := L_len p
  have hy : Hid (∀ j, j < (L p).length → (L p).getD j 0 < 65536) := fun j hj => L_getD hj
  have hat : Hid (∀ (y : Nat) w, y < 65536 → Holds w v2 (ints (L q)) → Calls Tryd.prog 29 #[v2, .int .i64 (y : Int)] w fun e w' => ∃ j : Nat, e = .returned (.tuple #[.int .i64 (j : Int), .bool (q y)]) ∧ Below w.heap.size w w') := fun y w hy h => by
    have hl := L_len q
    refine (at_c v2 (L q) (y : Int) w h (by omega)).mono ?_
    rintro e w' ⟨j, he, hp, hB⟩
    rw [isAt_in hy hp] at he
    exact ⟨j, he, hB⟩
  rw [← hend]
  clear hend
  generalize L p = xs at *
  generalize L q = zs at *
  replace h2 := (show Hid _ from h2)
  go_enter Tryd.func12, Tryd.ntmps12
  go_wp2_with fail
  go_loopw [7, 8] (fun u i wr => ∃ j : Nat, j ≤ xs.length ∧ i = .int .i64 (j : Int) ∧ Hid (wr.ownsRow w.heap.size 3 1 u ((xs.take j).filter fun k => q k == t).length (ints ((xs.take j).filter fun k => q k == t))) ∧ Hid (Below w.heap.size w wr)) (fun _ i _ => xs.length - (intOf i).toNat)
  case atStart => exact ⟨0, Nat.zero_le _, rfl, World.ownsRow_made w #[] 0 (Nat.le_refl _) (by unfold maxLen; omega) rfl, (Below.refl _ _).alloc (Nat.le_refl _) _⟩
  case round =>
    obtain ⟨j, hj, rfl, hown, hB⟩ := hrel
    by_cases hlt : j < xs.length
    · rcases hrow with h0 | ⟨b, off, rfl, hb, hc⟩
      · have := congrArg List.length h0
        rw [ints_len] at this; simp only [List.length_nil] at this; omega
      have hyj := hy.out j hlt
      have hcx := (hB.out.cell (p := ⟨b, off + j, none⟩) hb).trans (hc j _ (ints_at xs j hlt))
      have hj1 : (j : Int) < (xs.length : Int) := by omega
      have hts := take_snocN xs j hlt
      have hfl : Hid ((xs.take (j + 1)).filter (fun k => q k == t) = (xs.take j).filter (fun k => q k == t) ++ (if q (xs.getD j 0) == t then [xs.getD j 0] else [])) := by
        show _ = _
        rw [hts, List.filter_append, List.filter_cons]
        rfl
      have hcall := hat.out (xs.getD j 0) wr hyj (Holds.below h2.out (hB.out.mono (Nat.le_refl _)))
      have hfn : Hid (((xs.take j).filter fun k => q k == t).length ≤ 65536) := by
        have h3 := List.length_filter_le (fun k => q k == t) (xs.take j)
        have h4 : (xs.take j).length ≤ j := by rw [List.length_take]; omega
        show _ ≤ _
        omega
      generalize (xs.take j).filter (fun k => q k == t) = fs at *
      generalize xs.getD j 0 = y at *
      clear hc hts hyj
      go_wp2_with fail
      refine hcall.mono ?_
      rintro e w2 ⟨at0, rfl, hB2⟩
      have hcx2 := (hB2.cell (World.block_lt_of_cell? _ _ hcx)).trans hcx
      have hown2 := hidden (owns_below hown.out hB2)
      have hBw : Hid (Below w.heap.size w w2) := hB.out.trans (hB2.mono hB.out.size)
      clear hcall hB2 hB hown hcx
      cases hq : (q y == t) with
      | false =>
        rw [hq] at hfl
        have hnext := hown2.out
        have efs : fs = (xs.take (j + 1)).filter fun k => q k == t := by rw [hfl.out]; simp
        rw [efs] at hnext
        replace hnext := hidden hnext
        clear efs
        clear hfl hcx2 hown2
        go_wp2
        go_roundw
        case rel => exact ⟨j + 1, by omega, by go_num, hnext, hBw⟩
        case measure => simp [intOf]; omega
      | true =>
        rw [hq] at hfl
        have hszw := hBw.out.size
        have hown3 := hown2.out
        have hfn2 := hfn.out
        go_wp2_with (at_builtin; refine wpList_append_own _ rfl _ _ 22 rfl w.heap.size 3 i0 (.int .i64 0) 1 8 Tryd.underlying22 hi hz0 hz1 hz2 rfl (by decide) _ _ _ rfl (hown3.alloc _) ⟨w2.heap.size, 0, none⟩ 1 1 [.int .i64 (y : Int)] rfl rfl (cell_one_new _ _ _) ?c2 ?c3 ?c4 ?c5 ?_)
        case c2 => intro u hu; simp at hu; subst hu; rfl
        case c3 => unfold maxLen; omega
        case c4 => omega
        case c5 => simp; omega
        intro v' w3 hown' hgrow _
        have hnext : Hid (w3.ownsRow w.heap.size 3 1 v' ((xs.take (j + 1)).filter fun k => q k == t).length (ints ((xs.take (j + 1)).filter fun k => q k == t))) := by
          rw [hfl.out]
          simp only [if_true, List.length_append, List.length_cons, List.length_nil]
          rw [ints_snoc]; exact hown'
        have hB3 : Hid (Below w.heap.size w w3) := (hBw.out.alloc hszw _).grown hgrow (by simp; omega) (fun k hk => (hown3.lt k hk).1)
        clear hfl hcx2 hown2 hown3 hown' hgrow hBw
        go_wp2
        go_roundw
        case rel => exact ⟨j + 1, by omega, by go_num, hnext, hB3⟩
        case measure => simp [intOf]; omega
    · have hj1 : ¬ (j : Int) < (xs.length : Int) := by omega
      obtain rfl : j = xs.length := by omega
      have hfin := hown.out
      rw [List.take_length] at hfin
      replace hfin := hidden (holds_of_owns hfin)
      clear hown
      go_wp2
      go_ret
      exact ⟨_, rfl, hfin.out, hB.out⟩
end Go.Proofs.YtieinedancdokaaDoor
