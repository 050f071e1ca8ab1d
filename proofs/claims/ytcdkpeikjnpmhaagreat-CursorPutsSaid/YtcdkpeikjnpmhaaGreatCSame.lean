/-
  TWO MARKS HELD AGAINST EACH OTHER BY THE PROGRAM: slices.Equal and cursor.Same, by contract.
-/
import Derived.Test.YtcdkpeikjnpmhaaGreatMkSame
import Derived.BigGuard
namespace Go.Proofs.YtcdkpeikjnpmhaaGreat
open Go.ChangeShapes Go.WideShapes Go.ChangeAt Go.RowKit

set_option maxHeartbeats 1600000 in
theorem seq_c (xs ys : List Int) (na nb : Option Addr) (nc nd : Nat) (w : World) (hz : xs.length ≤ 17592186044416) (_hz2 : ys.length ≤ 17592186044416)
    (hv : Holds w (.slice na xs.length nc) (xs.map (Value.int .i64))) (hu : Holds w (.slice nb ys.length nd) (ys.map (Value.int .i64))) :
    Calls Tryz.prog 18 #[.slice na xs.length nc, .slice nb ys.length nd] w fun e w' => e = .returned (.bool (decide (xs = ys))) ∧ Below w.heap.size w w' := by
  have hS : Hid (decide (xs = ys) = decide (xs = ys)) := rfl
  have hno := hidden fun (k : Nat) h => rsamem_part (xs := xs) (ys := ys) k h
  have hyes := hidden fun (k : Nat) h1 h2 h3 => rsamem_end (xs := xs) (ys := ys) k h1 h2 h3
  clear hS
  replace hv := hidden hv
  replace hu := hidden hu
  by_cases h4 : xs.length = ys.length
  case neg =>
    have e : Hid (decide (xs = ys) = false) := decide_eq_false fun e => h4 (by rw [e])
    have g4 : ((xs.length : Int) != (ys.length : Int)) = true := bne_iff_ne.2 (by omega)
    clear hno hyes
    replace h4 := hidden h4
    generalize decide (xs = ys) = S at *
    go_enter Tryz.func18, Tryz.ntmps18
    go_wp2
    go_ret
    exact ⟨by rw [e.out]; first | done | rfl, Below.refl _ _⟩
  have g4 : ((xs.length : Int) != (ys.length : Int)) = false := by rw [h4]; simp
  replace h4 := hidden h4
  generalize decide (xs = ys) = S at *
  go_enter Tryz.func18, Tryz.ntmps18
  go_wp2
  go_loopw [5, 13] (fun _ i wr => ∃ k : Nat, k ≤ xs.length ∧ i = .int .i64 k ∧ Hid (xs.take k = ys.take k) ∧ Hid (Below w.heap.size w wr)) (fun _ i _ => xs.length - (intOf i).toNat)
  case atStart => exact ⟨0, Nat.zero_le _, rfl, rfl, Below.refl _ _⟩
  case round =>
    obtain ⟨k, hk, rfl, ht, hnx⟩ := hrel
    by_cases hlt : k < xs.length
    · have hlt2 : k < ys.length := by have := h4.out; omega
      obtain ⟨b, p, rfl, _, hc⟩ := row_cell (hv.out.below hnx.out) hlt
      obtain ⟨b', p', rfl, _, hc'⟩ := row_cell (hu.out.below hnx.out) hlt2
      have hj1 : (k : Int) < (xs.length : Int) := by omega
      have hj2 : (k : Int) < (ys.length : Int) := by omega
      have hj3 : (0 : Int) ≤ (k : Int) := Int.natCast_nonneg _
      have hts : Hid (xs.getD k 0 = ys.getD k 0 → xs.take (k + 1) = ys.take (k + 1)) := fun e => by
        rw [List.take_add_one, List.take_add_one, ht.out, List.getElem?_eq_getElem hlt, List.getElem?_eq_getElem hlt2]
        simp [List.getD, hlt, hlt2] at e
        simp [e]
      have hne := hidden (hno.out k)
      generalize xs.getD k 0 = x at *
      generalize ys.getD k 0 = y at *
      clear hno hyes
      go_wp2_with fail
      go_region
      by_cases hxy : x = y
      · have ha := hidden (hts.out hxy)
        have g5 : (x != y) = false := by simp [hxy]
        clear hxy hts hne ht
        go_wp2
        go_roundw
        case rel => exact ⟨k + 1, by omega, by go_num, ha, hnx.out.drew⟩
        case measure => simp [intOf]; omega
      · have ha := hidden (hne.out hxy)
        have g5 : (x != y) = true := by simp [hxy]
        clear hxy hts hne ht
        go_wp2
        go_ret
        exact ⟨by rw [ha.out]; first | done | rfl, hnx.out.drew⟩
    · have hj1 : ¬ (k : Int) < (xs.length : Int) := by omega
      have ha := hidden (hyes.out k h4.out ht.out (by omega))
      clear ht
      go_wp2
      go_ret
      exact ⟨by rw [ha.out]; first | done | rfl, hnx.out⟩
set_option maxHeartbeats 3200000 in
theorem csame_c (m o : Mk) (na nb : Option Addr) (nc nd : Nat) (ia ib : Option Addr) (ic id : Nat) (w : World) (hz : m.nodes.length ≤ 17592186044416) (hz2 : o.nodes.length ≤ 17592186044416)
    (hv : Holds w (.slice na m.nodes.length nc) (m.nodes.map (Value.int .i64))) (hu : Holds w (.slice nb o.nodes.length nd) (o.nodes.map (Value.int .i64))) :
    Calls Tryz.prog 8 #[mkS m na nc ia ic, mkS o nb nd ib id] w fun e w' => e = .returned (.bool (sameM m o)) ∧ Below w.heap.size w w' := by
  have hX0 := hidden (heap2_old w (.cells #[.int .i64 m.told, .bool m.over, .slice na m.nodes.length nc, .int .u64 m.rest, .slice ia m.items.length ic] 26) (.cells #[.int .i64 o.told, .bool o.over, .slice nb o.nodes.length nd, .int .u64 o.rest, .slice ib o.items.length id] 26))
  have hX1 := hidden (heap2_new w (.cells #[.int .i64 m.told, .bool m.over, .slice na m.nodes.length nc, .int .u64 m.rest, .slice ia m.items.length ic] 26) (.cells #[.int .i64 o.told, .bool o.over, .slice nb o.nodes.length nd, .int .u64 o.rest, .slice ib o.items.length id] 26))
  have hB0 : Hid (Below w.heap.size w ((w.alloc (.cells #[.int .i64 m.told, .bool m.over, .slice na m.nodes.length nc, .int .u64 m.rest, .slice ia m.items.length ic] 26)).alloc (.cells #[.int .i64 o.told, .bool o.over, .slice nb o.nodes.length nd, .int .u64 o.rest, .slice ib o.items.length id] 26))) :=
    ((Below.refl _ _).alloc (Nat.le_refl _) _).alloc (by show _ ≤ (w.heap.push _).size; simp) _
  have hq := seq_c m.nodes o.nodes na nb nc nd _ hz hz2 (hv.below hB0.out) (hu.below hB0.out)
  have hS : Hid (sameM m o = _) := hidden (show sameM m o = (decide (m.told = o.told) && (decide (m.over = o.over) && (decide (m.rest = o.rest) && decide (m.nodes = o.nodes)))) from rfl)
  unfold mkS
  clear hv hu hz hz2
  generalize hwe : (w.alloc (.cells #[.int .i64 m.told, .bool m.over, .slice na m.nodes.length nc, .int .u64 m.rest, .slice ia m.items.length ic] 26)).alloc (.cells #[.int .i64 o.told, .bool o.over, .slice nb o.nodes.length nd, .int .u64 o.rest, .slice ib o.items.length id] 26) = wx at *
  replace hwe := hidden hwe
  obtain ⟨⟨b0, b1, b2, b3, b4⟩, -⟩ := box5f hX0.out
  obtain ⟨⟨c0, c1, c2, c3, c4⟩, -⟩ := box5f hX1.out
  clear b4 c4
  generalize sameM m o = S at *
  generalize decide (m.nodes = o.nodes) = q at *
  by_cases h1 : m.told = o.told
  case neg =>
    have e : Hid (S = false) := hS.out.trans (by rw [decide_eq_false h1]; rfl)
    have g1 : (m.told == o.told) = false := beq_eq_false_iff_ne.2 h1
    clear hS hq
    go_enter Tryz.func8, Tryz.ntmps8
    go_wp2_with fail
    rw [hwe.out]
    go_wp2
    go_ret
    exact ⟨by rw [e.out]; first | done | rfl, hB0.out⟩
  have g1 : (m.told == o.told) = true := by simp [h1]
  replace hS : Hid (S = (decide (m.over = o.over) && (decide (m.rest = o.rest) && q))) := hS.out.trans (by rw [decide_eq_true h1]; rfl)
  replace h1 := hidden h1
  by_cases h2 : m.over = o.over
  case neg =>
    have e : Hid (S = false) := hS.out.trans (by rw [decide_eq_false h2]; rfl)
    have g2 : (m.over == o.over) = false := beq_eq_false_iff_ne.2 h2
    clear hS hq
    replace h2 := hidden h2
    go_enter Tryz.func8, Tryz.ntmps8
    go_wp2_with fail
    rw [hwe.out]
    go_wp2
    go_ret
    exact ⟨by rw [e.out]; first | done | rfl, hB0.out⟩
  have g2 : (m.over == o.over) = true := by simp [h2]
  replace hS : Hid (S = (decide (m.rest = o.rest) && q)) := hS.out.trans (by rw [decide_eq_true h2]; rfl)
  replace h2 := hidden h2
  have hR : Hid ((m.rest == o.rest) = decide (m.rest = o.rest)) := rfl
  cases q with
  | false =>
    have e : Hid (S = false) := hS.out.trans (by simp)
    clear hS
    go_enter Tryz.func8, Tryz.ntmps8
    go_wp2_with fail
    rw [hwe.out]
    go_wp2_with fail
    refine hq.mono ?_
    rintro e1 w1 ⟨rfl, hB1⟩
    have hB2 := hidden (hB0.out.trans (hB1.mono hB0.out.size))
    clear hq hB1
    go_wp2
    go_ret
    exact ⟨by rw [e.out]; first | done | rfl, hB2.out⟩
  | true =>
    have e : Hid (S = (m.rest == o.rest)) := hS.out.trans (by rw [Bool.and_true]; exact hR.out.symm)
    clear hS
    go_enter Tryz.func8, Tryz.ntmps8
    go_wp2_with fail
    rw [hwe.out]
    go_wp2_with fail
    refine hq.mono ?_
    rintro e1 w1 ⟨rfl, hB1⟩
    have hB2 := hidden (hB0.out.trans (hB1.mono hB0.out.size))
    replace b3 := (hB1.cell (World.block_lt_of_cell? _ _ b3)).trans b3
    replace c3 := (hB1.cell (World.block_lt_of_cell? _ _ c3)).trans c3
    clear hq hB1
    go_wp2
    go_ret
    exact ⟨by rw [e.out]; first | done | rfl, hB2.out⟩
end Go.Proofs.YtcdkpeikjnpmhaaGreat
