/-
  A RISING LIST WITHOUT ONE, as the reference makes it: by contract.
-/
import Derived.Test.YtfjhiaafabmpbagDoorRefPut
namespace Go.Proofs.YtfjhiaafabmpbagDoor
open Go.ChangeShapes Go.WideShapes Go.ChangeAt Go.RowKit

set_option maxHeartbeats 3200000 in
theorem rcut_c (v : Value) (p : Nat → Bool) (n : Int) (B : Nat) (w : World) (hBw : B ≤ w.heap.size) (hv : SlS B w v (L p)) : Calls Tryd.prog 13 #[v, .int .i64 n] w fun e w' =>
    ∃ v', e = .returned v' ∧ SlS B w' v' (L fun k => p k && !(good n && k == n.toNat)) ∧ Below w.heap.size w w' := by
  replace hBw := hidden hBw
  obtain ⟨i0, hi, hz0, hz1, hz2⟩ := info_parts infoI
  have hlen := L_len p
  have hat := at_c v (L p) n w hv.holds (by omega)
  by_cases hnew : good n = true ∧ p n.toNat = true
  · obtain ⟨hg, hp⟩ := hnew
    have hg0 := hg
    simp only [good, Bool.and_eq_true, decide_eq_true_eq] at hg
    obtain ⟨m, rfl⟩ := Int.eq_ofNat_of_zero_le hg.1
    simp only [Int.toNat_natCast] at hp ⊢
    have hia := fun j (h : Place (L p) m j) => (isAt_L h).trans (by rw [hg0, Int.toNat_natCast, hp, Bool.true_and])
    have hput := fun j h => L_cut (p := p) (m := m) (j := j) (by omega) hp h
    have hjlt := fun j (h : Place (L p) m j) => (show isAt (L p) m j = true from hia j h)
    have heq : (L fun k => p k && !(good (m : Int) && k == m)) = L fun k => p k && !(k == m) := L_congr fun k => by rw [hg0, Bool.true_and]
    rw [heq]
    generalize hq : (L fun k => p k && !(k == m)) = qs at *
    obtain ⟨g, og, cap, rfl, -, hsl⟩ := hv
    clear hg hg0 heq hq
    go_enter Tryd.func13, Tryd.ntmps13
    go_wp2_with fail
    refine hat.mono ?_
    rintro e wr ⟨j, rfl, hpl, hB⟩
    rw [hia j hpl]
    clear hat
    have hput := hput j hpl
    have hjl : j + 1 ≤ (L p).length := by
      have := hjlt j hpl
      simp only [isAt, Bool.and_eq_true, decide_eq_true_eq] at this
      exact this.1
    clear hpl hia hjlt
    have hS1 := (hsl.below hB).to' j (Nat.le_of_succ_le hjl)
    have hS2 := (hsl.below hB).from' (j + 1) hjl
    have hnco : j + 1 ≤ cap := by
      obtain ⟨_, cap', hcc, hnco, -⟩ := hsl
      rw [ints_len] at hnco
      generalize L p = lp at *
      simp only [Value.slice.injEq] at hcc
      omega
    clear hsl
    have hl1 : ((ints (L p)).take j).length = j := by rw [List.length_take, ints_len]; omega
    have hl2 : ((ints (L p)).drop (j + 1)).length = (L p).length - (j + 1) := by rw [List.length_drop, ints_len]
    have hc1 : ∀ u ∈ (ints (L p)).take j, u.oneCell' = true := fun u hu => ints_cells _ u (List.mem_of_mem_take hu)
    have hc2 : ∀ u ∈ (ints (L p)).drop (j + 1), u.oneCell' = true := fun u hu => ints_cells _ u (List.mem_of_mem_drop hu)
    have hT : Hid (ints qs = (ints (L p)).take j ++ (ints (L p)).drop (j + 1)) := by
      show _ = _
      rw [← hput]; simp [ints, List.map_take, List.map_drop]
    generalize (ints (L p)).take j = T1 at *
    generalize (ints (L p)).drop (j + 1) = T2 at *
    generalize (L p).length = N at *
    clear hput hp
    obtain ⟨wq, hwq⟩ : ∃ wq, wq = wr := ⟨_, rfl⟩
    rw [← hwq] at hS1 hS2 hB ⊢
    clear hwq
    have e1 : wrap64 ((j : Int) + 1) = ((j + 1 : Nat) : Int) := by rw [IntWalk.wrap64_in] <;> omega
    have hjN0 : (j : Int) ≤ (N : Int) := by omega
    generalize hjq : j + 1 = q at *
    have hjN : (q : Int) ≤ (N : Int) := by omega
    have hjC : (q : Int) ≤ (cap : Int) := by omega
    have hq0 : (0 : Int) ≤ (q : Int) := by omega
    have e4 : IntKind.i64.wrap ((j : Int) + 1) = (q : Int) := by rw [IntWalk.i64_in] <;> omega
    have hjC0 : (j : Int) ≤ (cap : Int) := by omega
    go_wp2_with fail
    go_region_law (first
      | (refine step_app rfl (.tmp 16) (.tmp 19) 22 rfl wq.heap.size 3 i0 (.int .i64 0) 8 Tryd.underlying22 hi hz0 hz1 hz2 rfl (by simp [Act.eval]) (World.ownsRow_made wq.drew #[] 0 (Nat.le_refl _) (by unfold maxLen; omega) rfl) (by simp [Act.eval]) (hS1.below ((Below.refl wq.heap.size wq).drew.alloc (Nat.le_refl _) _)) hc1 (by rw [hl1]; unfold maxLen; omega) (by rw [hl1]; omega) (by simp <;> omega) ?_; intro v1 w1 hown1 hgrow1 hsm1; have hB1 := ((Below.refl wq.heap.size wq).drew.alloc (Nat.le_refl _) _).grown hgrow1 (by simp <;> omega) (fun j hj => by cases hj; simp))
      | (refine step_app rfl (.tmp 20) (.tmp 24) 22 rfl wq.heap.size 3 i0 (.int .i64 0) 8 Tryd.underlying22 hi hz0 hz1 hz2 rfl (by simp [Act.eval]) hown1 (by simp [Act.eval]) (hS2.below hB1) hc2 (by simp only [hl1, hl2]; unfold maxLen; omega) (by simp only [hl1, hl2]; omega) hB1.size ?_; intro v3 w3 hown3 hgrow3 hsm3))
    all_goals
      have hB3 := hB1.grown hgrow3 hB1.size (fun j hj => (hown1.lt j hj).1)
      have hown4 : w3.ownsRow wq.heap.size 3 1 v3 (0 + T1.length + T2.length) (ints qs) := by rw [hT.out]; exact hown3
      have hne3 : v3 ≠ .slice none 0 0 := fun h => by have := hsm1 (hsm3 h); cases this
      have hfin := hidden (slS_of (B' := B) hown4 hne3 (Nat.le_trans hBw.out hB.size))
      have hfb := hidden (hB.trans (hB3.mono hB.size))
      clear hown1 hown3 hown4 hgrow1 hgrow3 hB1 hB3 hS1 hS2
      go_wp2
      all_goals
        go_ret
        exact ⟨v3, rfl, hfin.out, hfb.out⟩
  · have heq : (L fun k => p k && !(good n && k == n.toNat)) = L p := L_congr fun k => by
      by_cases hk : k = n.toNat
      · rw [hk, beq_self_eq_true, Bool.and_true]
        cases h2 : p n.toNat with
        | false => rfl
        | true => cases h1 : good n with
          | true => exact absurd ⟨h1, h2⟩ hnew
          | false => rfl
      · have : (k == n.toNat) = false := by simpa using hk
        rw [this, Bool.and_false, Bool.not_false, Bool.and_true]
    rw [heq]
    have hno : (good n && p n.toNat) = false := by
      cases h1 : good n with
      | false => rfl
      | true => cases h2 : p n.toNat with
        | false => rfl
        | true => exact absurd ⟨h1, h2⟩ hnew
    have hia := fun j (h : Place (L p) n j) => (isAt_L h).trans hno
    have hv2 := hv
    obtain ⟨g, og, cap, rfl, -, hsl⟩ := hv
    clear hsl heq hi hz0 hz1 hz2 hno hnew
    generalize L p = lp at *
    go_enter Tryd.func13, Tryd.ntmps13
    go_wp2_with fail
    refine hat.mono ?_
    rintro e w1 ⟨j, rfl, hpl, hB⟩
    rw [hia j hpl]
    clear hat hia hpl
    go_wp2
    go_ret
    exact ⟨_, rfl, hv2.below hB, hB⟩
end Go.Proofs.YtfjhiaafabmpbagDoor
